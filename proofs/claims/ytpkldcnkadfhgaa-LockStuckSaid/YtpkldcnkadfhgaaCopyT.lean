/- What Copy does: the walk. -/
import Derived.Test.YtpkldcnkadfhgaaCopy
namespace Go.Proofs.Ytpkldcnkadfhgaa
open Go.RowKit

def waitsPost (w : World) (t : Lk.T) (e : Ending) (w' : World) : Prop :=
  ∃ m, e = .returned (.map m) ∧ (∀ b, m = some b → MapIs w' b t.waits ∧ w.heap.size ≤ b) ∧ (m = none → t.waits = []) ∧ Below w.heap.size w w'
/-- One lock more. -/
theorem Cop.add {w wr w2 w5 : World} {bl bc : Blocks} {tb cb i lb' hb' : Nat} {t : Lk.T} {l : Lk.L} {lvc v' v5 : Value} {wvc : Nat → Value} {lsc : List Nat} {o : Obj}
    (hR : Rep wr bc cb lvc wvc lsc { t with ls := t.ls.take i }) (hN : ∀ r k, bc r = some k → w.heap.size ≤ k) (hS : Below w.heap.size w wr) (hl : t.ls[i]? = some l)
    (hB : Below wr.heap.size wr w2) (hK : Lock w2 lb' hb' v' l) (h1 : wr.heap.size ≤ lb') (h2 : wr.heap.size ≤ hb') (h3 : lb' ≠ hb') (hV : ∀ k, v'.ownBlock = some k → wr.heap.size ≤ k ∧ k ≠ lb' ∧ k ≠ hb')
    (hrow : w5.ownsRow 0 78 1 v5 (i + 1) (ptrs lsc ++ [.pointer (some ⟨lb', 0, none⟩)])) (hG : (w2.alloc o).grownBy w5 lvc.ownBlock) (hat : v5.ownBlock = lvc.ownBlock ∨ v5.ownBlock = some (w2.alloc o).heap.size) :
    ∃ bc', Cop w bl tb t cb (i + 1) bc' (w5.setCell ⟨cb, 0, none⟩ v5) := by
  have hi : i < t.ls.length := (List.getElem?_eq_some_iff.1 hl).1
  have hBa : Below wr.heap.size wr (w2.alloc o) := hB.alloc hB.size _
  have hRa := hR.below hBa
  have hKa : Lock (w2.alloc o) lb' hb' v' l := hK.fr (S := none_) (Fr.of_below (one w2 o)) (fun hn => hn) (fun hn => hn) (fun _ _ hn => hn)
  have hno : ∀ k, wr.heap.size ≤ k → ∀ r, bc r ≠ some k := fun k hk r e => by have := hR.lt _ _ e; omega
  obtain ⟨bl', hr, hb'⟩ := hRa.push hKa (hno _ h1) (hno _ h2) (fun k e => ⟨hno _ (hV k e).1, (hV k e).2⟩) h3 hG (by simpa [show min i t.ls.length = i by omega] using hrow) hat
  have hF : Fr (fun x => lvc.ownBlock = some x ∨ x = cb) (w2.alloc o) (w5.setCell ⟨cb, 0, none⟩ v5) := Fr.set ((Fr.grown (Fr.refl (fun x => lvc.ownBlock = some x) _) hG fun x e => .inl e).widen fun x hx _ => .inl hx) (.inl (.inr rfl)) 0 v5
  have hsz := hS.size
  have hs2 := hBa.size
  have e1 : t.ls.take (i + 1) = t.ls.take i ++ [l] := by rw [List.take_add_one, hl]; rfl
  have hr2 : Rep (w5.setCell ⟨cb, 0, none⟩ v5) bl' cb v5 (fun j => if j = lsc.length then v' else wvc j) (lsc ++ [lb']) { t with ls := t.ls.take (i + 1) } := by rw [e1]; exact hr
  refine ⟨bl', ⟨_, _, _, hr2⟩, fun r k e => ?_, (hS.trans (hBa.mono hS.size)).trans (hF.below (fun x hx => ?_) (by omega))⟩
  · rcases hb' r k e with h | h | h | h | h
    · exact hN _ _ h
    · omega
    · omega
    · have := (hV k h).1; omega
    · omega
  · rcases hx with hx | rfl
    · exact hN (1, 0) x (by rw [← hR.hV]; exact hx)
    · exact hN _ _ hR.hT
theorem clone_waits {w : World} {bl : Blocks} {tb : Nat} {lv : Value} {wv : Nat → Value} {ls : List Nat} {t : Lk.T} (h : Rep w bl tb lv wv ls t) : Calls Try.prog 49 #[.map (bl (2, 0))] w (waitsPost w t) := by
  unfold waitsPost
  cases hm : bl (2, 0) with
  | none =>
    refine (clone_map_nil w).mono ?_
    rintro e w' ⟨rfl, rfl⟩
    exact ⟨none, rfl, (fun b e => by cases e), fun _ => h.waits0 hm, Below.refl _ _⟩
  | some b =>
    refine (clone_map w b t.waits (h.waits b hm)).mono ?_
    rintro e w' ⟨rfl, hM, hb⟩
    exact ⟨some w.heap.size, rfl, (fun b e => by cases e; exact ⟨hM, Nat.le_refl _⟩), (fun e => by cases e), hb⟩

set_option maxRecDepth 100000 in
set_option maxHeartbeats 4000000 in
theorem copy_any (bl : Blocks) (tb : Nat) (t : Lk.T) (w : World) (h : Tab w bl tb t) : Calls Try.prog 21 #[.pointer (some ⟨tb, 0, none⟩)] w (copyPost w t) := by
  unfold copyPost
  obtain ⟨⟨lv, wv, ls, hR0⟩, hok⟩ := h
  obtain ⟨q, cap, rfl, hcap, hcm, hq⟩ := hR0.form
  have hn16 := hok.n16
  have hlen := hR0.len
  have htb := hR0.lt _ _ hR0.hT
  have c0 : w.cell? ⟨tb, 0, none⟩ = some (.slice q ls.length cap) := hR0.blk.cell 0 (by omega)
  have c1 : w.cell? ⟨tb, 1, none⟩ = some (.map (bl (2, 0))) := hR0.blk.cell 1 (by omega)
  have CW := Lib.hid (clone_waits hR0)
  have HR0 := Lib.hid hR0
  have HQ := Lib.hid hq
  have HOK := Lib.hid hok
  unfold waitsPost at CW
  clear hR0 hq hok
  go_enter Try.func21, Try.ntmps21
  go_wp2_with fail
  refine CW.out.mono ?_
  rintro e w1 ⟨m, rfl, hm, hm0, hb1⟩
  have HC : Hid (∀ bc, (fun r : Nat × Nat => if r = (0, 0) then some w1.heap.size else if r = (2, 0) then m else none) = bc → Cop w bl tb t w1.heap.size 0 bc (w1.alloc (.cells #[.slice none 0 0, .map m] 68))) := Lib.hid fun bc e => by
    subst e
    refine ⟨⟨_, _, _, Rep.fresh (fun b e => (hm b e).1) hm0⟩, fun r k e => ?_, hb1.alloc hb1.size _⟩
    by_cases h1 : r = (0, 0)
    · subst h1; simp only [if_true] at e; cases e; exact hb1.size
    · simp only [h1, if_false] at e
      split at e
      · exact (hm k e).2
      · cases e
  have k0 : w1.cell? ⟨tb, 0, none⟩ = some (.slice q ls.length cap) := cell_of hb1 c0
  have ht1 : tb < w1.heap.size := Nat.lt_of_lt_of_le htb hb1.size
  clear CW hm hm0 hb1
  go_wp2_with fail
  go_loopw [20] (fun vi wt => ∃ (i : Nat) (bc : Blocks), i ≤ t.ls.length ∧ vi = .int .i64 (i : Nat) ∧ Cop w bl tb t w1.heap.size i bc wt) (fun vi _ => t.ls.length - (intOf vi).toNat)
  case atStart => exact ⟨0, _, Nat.zero_le _, rfl, HC.out _ rfl⟩
  case round =>
    obtain ⟨i, bc, hi, rfl, hS⟩ := hrel
    by_cases hlt : i < t.ls.length
    · obtain ⟨l, hl⟩ : ∃ l, t.ls[i]? = some l := ⟨_, List.getElem?_eq_getElem hlt⟩
      obtain ⟨lb, hb, e3, els, e4, e5, hK⟩ := HR0.out.lock i l hl
      obtain ⟨g, rfl, hg, hgc⟩ := HQ.out (by omega)
      have cg : wr.cell? ⟨g, i, none⟩ = some (.pointer (some ⟨lb, 0, none⟩)) := cell_of hS.bel (hgc i lb els)
      have HSb := Lib.hid hS.bel
      obtain ⟨⟨lvc, wvc, lsc, hRc⟩, hnew, -⟩ := hS
      obtain ⟨qc, capc, rfl, hcapc, hcmc, -⟩ := hRc.form
      have hlenc : lsc.length = i := by have := hRc.len; simp at this; omega
      have hxc := hRc.lt _ _ hRc.hT
      have CLN : Hid (∀ W, Below wr.heap.size wr W → Calls Try.prog 50 #[.pointer (some ⟨lb, 0, none⟩)] W (clonePost W l)) := Lib.hid fun W hW => clone_any lb hb (wv i) l W (hK.fr (S := none_) (Fr.of_below (HSb.out.trans (hW.mono HSb.out.size))) (fun hn => hn) (fun hn => hn) (fun _ _ hn => hn)) ((HOK.out.ok l (List.mem_of_getElem? hl)).wait_len)
      unfold clonePost at CLN
      have B1 : Hid (Below wr.heap.size wr wr.drew) := Lib.hid (below_drewN (Below.refl _ wr) 1)
      have KC : Hid (∀ W, Below wr.heap.size wr W → W.cell? ⟨w1.heap.size, 0, none⟩ = some (.slice qc i capc) ∧ W.frozen? ⟨w1.heap.size, 0, none⟩ = false ∧ w1.heap.size < W.heap.size) := Lib.hid fun W hW => by
        have hk := hRc.blk.below hW hxc
        exact ⟨(hk.cell 0 (by omega)).trans (by simp [tG, hlenc]), hk.fz 0, hk.lt⟩
      have HROW : Hid (∀ W, Below wr.heap.size wr W → W.ownsRow 0 78 1 (.slice qc i capc) i (ptrs lsc)) := Lib.hid fun W hW => by
        have := (hRc.below hW).row
        simpa [hlenc, show min i t.ls.length = i by omega] using this
      have HNE : Hid (some w1.heap.size ≠ (Value.slice qc i capc).ownBlock) := Lib.hid fun e => by
        have := hRc.nev hRc.hV hRc.hT (by simp)
        rw [hlenc] at this
        exact this e.symm
      have HRc := Lib.hid hRc
      have HNW := Lib.hid hnew
      have HL := Lib.hid hl
      obtain ⟨i0, hi0, hz0, hz1, hz2⟩ := info_parts info78
      have HI := Lib.hid hi0; have HZ0 := Lib.hid hz0; have HZ1 := Lib.hid hz1; have HZ2 := Lib.hid hz2
      have hml := maxLen_big
      have ei : IntKind.i64.wrap ((i : Int) + 1) = (i : Int) + 1 := IntWalk.i64_in _ (by omega)
      have hlt2 : (i : Int) < (ls.length : Int) := by omega
      have HLC := Lib.hid hlenc
      have c0r := (KC.out wr (Below.refl _ _)).1
      have z0r := (KC.out wr (Below.refl _ _)).2.1
      have l0r := (KC.out wr (Below.refl _ _)).2.2
      clear hRc hnew hK hgc hl hi0 hz0 hz1 hz2 hcapc hlenc
      go_wp2_with fail
      go_region_law (first
        | (refine wp_append_at _ _ _ 65 (by rfl) 0 78 i0 (.pointer none) 1 8 Try.underlying65 HI.out HZ0.out HZ1.out HZ2.out (by rfl) (by decide) (.slice qc i capc) i (ptrs lsc) (by rfl) (by exact HROW2.out) ⟨w2.heap.size, 0, none⟩ 1 1 [.pointer (some ⟨lb', 0, none⟩)] (by rfl) (by rfl) (by exact KN.out) (by simp [Value.oneCell']) (by omega) (by omega) (by simp) ?_; intro v5 w5 hown5 hG5 hat5; have hc5 : w5.cell? ⟨w1.heap.size, 0, none⟩ = some (.slice qc i capc) := (World.cell?_of_block (a := ⟨w1.heap.size, 0, none⟩) (hG5.block w1.heap.size (by simp; omega) HNE.out)).trans q0a; have hz5 : w5.frozen? ⟨w1.heap.size, 0, none⟩ = false := (World.frozen?_of_block (a := ⟨w1.heap.size, 0, none⟩) (hG5.block w1.heap.size (by simp; omega) HNE.out)).trans z0a; have hl5 : w1.heap.size < w5.heap.size := (by have := hG5.size; simp at this; omega); obtain ⟨g5, cp5, rfl⟩ := ownsRow_succ hown5; have HO5 := Lib.hid hown5; have HG5 := Lib.hid hG5; have HA5 := Lib.hid hat5; clear hown5 hG5 hat5)
        | (go_simp; go_at_call 50; refine (CLN.out _ B1.out).mono ?_; rintro e w2 ⟨lb', hb', v', rfl, hK', hl', hh', hne', hv', hb2⟩; have HB2 := Lib.hid (B1.out.trans (hb2.mono B1.out.size)); have HK2 := Lib.hid hK'; have HV2 := Lib.hid hv'; have HNE2 := Lib.hid hne'; have q0 := (KC.out _ HB2.out).1; have z0 := (KC.out _ HB2.out).2.1; have l0 := (KC.out _ HB2.out).2.2; have HB3 := Lib.hid (HB2.out.alloc HB2.out.size (.cells #[.pointer (some ⟨lb', 0, none⟩)] 78)); have q0a := (KC.out _ HB3.out).1; have z0a := (KC.out _ HB3.out).2.1; have HROW2 := Lib.hid (HROW.out _ HB3.out); have KN := Lib.hid (cell_one_new w2 (.pointer (some ⟨lb', 0, none⟩)) 78); clear hK' hb2 hv' hne'))
      all_goals
        have HRES : Hid (∃ bc', Cop w bl tb t w1.heap.size (i + 1) bc' (w5.setCell ⟨w1.heap.size, 0, none⟩ (.slice (some ⟨g5, 0, none⟩) (i + 1) cp5))) := Lib.hid (Cop.add (o := .cells #[.pointer (some ⟨lb', 0, none⟩)] 78) HRc.out HNW.out HSb.out HL.out HB2.out HK2.out hl' hh' HNE2.out HV2.out HO5.out (by rw [HLC.out]; exact HG5.out) (by rw [HLC.out]; exact HA5.out))
        clear HO5 HG5 HA5 HRc HNW HL HB2 HB3 HK2 HNE2 HV2 hc5 hz5 hl5 q0a z0a q0 z0 l0 KC HROW HROW2 KN CLN c0r z0r l0r
        go_wp2
        go_roundw
      case rel => obtain ⟨bc', hc'⟩ := HRES.out; exact ⟨i + 1, bc', by omega, by go_num, hc'⟩
      case measure => simp [intOf]; omega
      case rel => obtain ⟨bc', hc'⟩ := HRES.out; exact ⟨i + 1, bc', by omega, by go_num, hc'⟩
      case measure => simp [intOf]; omega
      case rel => obtain ⟨bc', hc'⟩ := HRES.out; exact ⟨i + 1, bc', by omega, by go_num, hc'⟩
      case measure => simp [intOf]; omega
    · obtain rfl : i = t.ls.length := by omega
      have HS := Lib.hid hS
      clear hS
      go_wp2
      go_ret
      obtain ⟨⟨lvc, wvc, lsc, hRc⟩, hnew, hbel⟩ := HS.out
      rw [List.take_length] at hRc
      exact ⟨bc, _, rfl, ⟨⟨_, _, _, hRc⟩, HOK.out⟩, hnew, hbel⟩
end Go.Proofs.Ytpkldcnkadfhgaa
