/- What newThief does. -/
import Derived.Deep.RegionLaw
import Derived.Laws.CopyOwn
import Derived.Deep.DeepCutAuto
import Derived.OwnWalk
import Derived.Test.YtajccigefoddiaaNewO
namespace Go.Proofs.Ytajccigefoddiaa
set_option linter.unusedVariables false
set_option linter.unusedSimpArgs false
open Go.RowKit Go.Shelf
attribute [local go_sem] run_store_func run_store_nilf run_store_ifc
theorem wp_copy_at {P : Program} (w : World) {o : Oper} {a : Act} {K : Act → World → Prop} {Q : Exit → Act → World → Prop} (d s : Operand) (dT sT : TypeId)
    (ho : o.op = .call { callee := .builtin .copy, args := #[d, s], argTypes := #[dT, sT] }) (elem : TypeId) (hu : P.underlying dT = some (.slice elem)) (hsz : (P.info? elem).map (·.size) = some 1)
    (g off dLen dCap : Nat) (ad : Addr) (sLen sCap : Nat) (hd : a.eval d = .slice (some ⟨g, off, none⟩) dLen dCap) (hs : a.eval s = .slice (some ad) sLen sCap)
    (cur : Array Value) (t : TypeId) (hg : w.heap[g]? = some (.cells cur t (0, 0))) (cs : List Value) (hn : cs.length = Nat.min sLen dLen)
    (hsrc : ∀ j v, cs[j]? = some v → w.cell? (ad.add j) = some v) (hfit : off + cs.length ≤ cur.size) (h1 : ∀ v ∈ cs, v.oneCell' = true)
    (h : ∀ w', w' = w.setRow g (cur.toList.take off ++ (cs ++ cur.toList.drop (off + cs.length))).toArray → K (a.put o.dst (goInt cs.length)) w') : o.wp P a w K Q := by
  have hrun := run_copy_row (P := P) w dT sT o.type elem g off dLen dCap ad sLen sCap cur t cs hu hsz hg hn hsrc hfit h1
  unfold Oper.wp
  simp [execOp, ho, resolve, invoke, builtin, hd, hs, hrun, Result.andThen]
  exact h _ rfl
/-- A row of n cells, the first k of which hold v. -/
def repRow (v : Value) (k n : Nat) : List Value := List.replicate k v ++ List.replicate (n - k) .nilIface
theorem repRow_len (v : Value) {k n : Nat} (h : k ≤ n) : (repRow v k n).length = n := by simp [repRow]; omega
theorem repRow_get (v : Value) {k n i : Nat} (h : i < k) : (repRow v k n)[i]? = some v := by
  unfold repRow
  rw [List.getElem?_append_left (by simpa using h), List.getElem?_replicate, if_pos h]
theorem repRow_more (v : Value) {k n c : Nat} (hk : k + c ≤ n) : (repRow v k n).take k ++ (List.replicate c v ++ (repRow v k n).drop (k + c)) = repRow v (k + c) n := by
  unfold repRow
  rw [List.take_append_of_le_length (by simp), List.take_of_length_le (by simp), List.drop_append]
  simp only [List.length_replicate, List.drop_replicate]
  rw [← List.append_assoc, List.replicate_append_replicate]
  have e1 : k - (k + c) = 0 := by omega
  rw [e1]
  simp only [List.replicate_zero, List.nil_append]
  congr 2
  omega
structure RepIn (w wr : World) (g : Nat) (v : Value) (k n : Nat) : Prop where
  row : wr.heap[g]? = some (.cells (repRow v k n).toArray 122 (0, 0))
  bel : Below w.heap.size w wr
  ge : w.heap.size ≤ g
theorem RepIn.more {w wr w' : World} {g : Nat} {v : Value} {k n c : Nat} (h : RepIn w wr g v k n) (hk : k + c ≤ n) {W : World} (hW : W.heap = wr.heap ∧ Below wr.heap.size wr W) (e : w' = W.setRow g ((repRow v k n).toArray.toList.take k ++ (List.replicate c v ++ (repRow v k n).toArray.toList.drop (k + (List.replicate c v).length))).toArray) : RepIn w w' g v (k + c) n := by
  rw [List.length_replicate] at e
  subst e
  have hlt : g < W.heap.size := by rw [hW.1]; exact (Array.getElem?_eq_some_iff.1 h.row).1
  refine ⟨?_, below_setRow (h.bel.trans (hW.2.mono h.bel.size)) h.ge _, h.ge⟩
  have e1 : (repRow v k n).toArray.toList = repRow v k n := rfl
  rw [e1, repRow_more v hk]
  have := h.row
  rw [← hW.1] at this
  simp [World.setRow, Array.getElem?_modify, this]
theorem info122s : (Try.prog.info? 122).map (·.size) = some 1 := by kernel_rfl
set_option maxRecDepth 100000 in
set_option maxHeartbeats 4000000 in
theorem repeat_any (w : World) (b n : Nat) (hn : n ≤ 60) (hb : b < w.heap.size) (hc : w.cell? ⟨b, 0, none⟩ = some (.iface 143 (.agg #[]))) :
    Calls Try.prog 82 #[.slice (some ⟨b, 0, none⟩) 1 1, natV n] w fun e w' => ∃ v', e = .returned v' ∧ w'.ownsRow w.heap.size 122 1 v' n (opsV (List.replicate n .theft)) ∧ Below w.heap.size w w' := by
  have M := Lib.hid (Any.bits_Mul Try.lays212 1 n (by decide) (by omega) w)
  obtain ⟨i0, hi, hz0, hz1, hz2⟩ := info_parts info122
  have HI := Lib.hid hi; have HZ0 := Lib.hid hz0; have HZ1 := Lib.hid hz1; have HZ2 := Lib.hid hz2
  have hml : (2000000 : Nat) ≤ maxLen := by decide
  have e1 : 1 * n / 18446744073709551616 = 0 := by omega
  have e2 : 1 * n % 18446744073709551616 = n := by omega
  have u1 : IntKind.u64.wrap (n : Int) = (n : Int) := by simp [IntKind.wrap, IntKind.signed, IntKind.bits]; omega
  have u2 : IntKind.u64.wrap (1 : Int) = 1 := by decide
  have u3 : IntKind.i64.wrap (n : Int) = (n : Int) := IntWalk.i64_in _ (by omega)
  have u4 : decide ((n : Int) > 9223372036854775807) = false := by simp; omega
  have u5 : decide (9223372036854775807 < (n : Int)) = false := by simp; omega
  have u6 : decide ((n : Int) < 0) = false := by simp
  rw [e1, e2] at M
  clear hi hz0 hz1 hz2 e1 e2
  go_enter Try.func82, Try.ntmps82
  go_wp2_with fail
  refine M.out.mono ?_
  rintro e w1 ⟨rfl, rfl⟩
  clear M
  go_wp2_with (refine wpList_make_full _ (by rfl) (.tmp 29) (.tmp 29) 87 (by rfl) w1.heap.size 122 i0 .nilIface 1 Try.underlying87 HI.out HZ0.out HZ1.out .i64 .i64 (n : Int) (n : Int) n (by rfl) (by rfl) (by rfl) (by rfl) (by rw [HZ2.out]; omega) (by omega) (Nat.le_refl _) ?_)
  intro w3 hrow3 hG3
  have hR0 : RepIn w1 w3 w1.heap.size (.iface 143 (.agg #[])) 0 n := by
    refine ⟨?_, (Below.refl _ w1).grown hG3 (Nat.le_refl _) (fun b e => by cases e), Nat.le_refl _⟩
    have e1 : (madeCells #[Value.nilIface] n).toList = repRow (.iface 143 (.agg #[])) 0 n := by rw [toList_madeCells_one]; simp [repRow]
    rcases hrow3.2 with ⟨e, _⟩ | ⟨g, cap, cur, e, h1, h2, h3, h4, h5, h6⟩
    · cases e
    · cases e
      have : cur = (repRow (.iface 143 (.agg #[])) 0 n).toArray := by
        have h7 : cur.toList = repRow (.iface 143 (.agg #[])) 0 n := by
          rw [← e1]
          have h8 : cur.toList.take (n * 1) = cur.toList := List.take_of_length_le (by simp; omega)
          rw [← h8]; simpa using h6
        exact Array.ext' h7
      rw [← this]; exact h2
  have hcw : w3.cell? ⟨b, 0, none⟩ = some (.iface 143 (.agg #[])) := cell_of hR0.bel hc
  obtain ⟨g, hg⟩ : ∃ g, g = w1.heap.size := ⟨_, rfl⟩
  have HGE := Lib.hid hg
  have HR0 := Lib.hid hR0
  rw [← hg] at HR0 ⊢
  clear hrow3 hG3 hg hR0
  go_upto_region 7 with fail
  go_cut [8] (fun s8 wx => ∃ k : Nat, s8 = natV k ∧ k ≤ n ∧ (k = 0 → n = 0) ∧ RepIn w1 wx g (.iface 143 (.agg #[])) k n)
  case first =>
    cases n with
    | zero =>
      go_wp2_with (refine wpList_copy_nothing (by rfl) (.tmp 31) (.tmp 32) 87 87 (by rfl) 122 Try.underlying87 info122s (some ⟨g, 0, none⟩) (some ⟨b, 0, none⟩) 0 0 1 1 (by rfl) (by rfl) (by rfl) ?_)
      go_meet
      exact ⟨0, rfl, Nat.le_refl _, fun _ => by trivial, HR0.out⟩
    | succ n =>
      have hsrc : ∀ (j : Nat) v, [Value.iface 143 (.agg #[])][j]? = some v → w3.cell? ((⟨b, 0, none⟩ : Addr).add j) = some v := fun j v hj => by
        cases j with
        | zero => simp at hj; subst hj; rw [add_off]; exact hcw
        | succ j => simp at hj
      have hmin : [Value.iface 143 (.agg #[])].length = Nat.min 1 (n + 1) := (Nat.min_eq_left (by show 1 ≤ n + 1; omega)).symm
      have hfit : 0 + [Value.iface 143 (.agg #[])].length ≤ (repRow (.iface 143 (.agg #[])) 0 (n + 1)).toArray.size := by simp [repRow]
      have hone : ∀ v ∈ [Value.iface 143 (.agg #[])], v.oneCell' = true := by simp [Value.oneCell']
      have HRR := HR0.out.row
      go_wp2_with (refine wpList_copy_own (by rfl) (.tmp 31) (.tmp 32) 87 87 (by rfl) 122 Try.underlying87 info122s g 0 (n + 1) (n + 1) ⟨b, 0, none⟩ 1 1 (by rfl) (by rfl) (repRow (.iface 143 (.agg #[])) 0 (n + 1)).toArray 122 HRR [.iface 143 (.agg #[])] hmin hsrc hfit hone ?_)
      go_meet
      refine ⟨1, rfl, by omega, fun h => by omega, ?_⟩
      exact HR0.out.more (c := 1) (by omega) ⟨rfl, Below.refl _ _⟩ rfl
  case rest =>
    obtain ⟨k0, rfl, hk0, hk1, hR1⟩ := hcut
    have HR1 := Lib.hid hR1
    clear HR0 hR1 hcw
    go_wp2_with fail
    go_loopw [8] (fun i wr => ∃ k : Nat, k ≤ n ∧ (k = 0 → n = 0) ∧ i = .int .i64 (k : Int) ∧ Hid (RepIn w1 wr g (.iface 143 (.agg #[])) k n)) (fun i _ => n - (intOf i).toNat)
    case atStart => exact ⟨k0, hk0, hk1, rfl, HR1⟩
    case round =>
      obtain ⟨k, hk, hkz, rfl, HR⟩ := hrel
      clear HR1
      by_cases hlt : k < n
      · obtain ⟨c, hc⟩ : ∃ c, c = Nat.min k (n - k) := ⟨_, rfl⟩
        have hcb : c ≤ k ∧ c ≤ n - k ∧ 0 < c := by
          have : c = min k (n - k) := hc
          omega
        have j1 : (k : Int) < (n : Int) := by omega
        have s1 : (0 : Int) ≤ (k : Int) := by omega
        have s2 : (k : Int) ≤ (n : Int) := by omega
        have s3 : ¬ n = k := by omega
        have s4 : ¬ n - k = 0 := by omega
        have HRR : Hid (∀ W : World, W.heap = wr.heap → W.heap[g]? = some (.cells (repRow (.iface 143 (.agg #[])) k n).toArray 122 (0, 0))) := Lib.hid fun W e => by rw [e]; exact HR.out.row
        have hmin' : (List.replicate c (Value.iface 143 (.agg #[]))).length = Nat.min k (n - k) := by rw [List.length_replicate]; exact hc
        have HSRC : Hid (∀ W : World, W.heap = wr.heap → ∀ (j : Nat) v, (List.replicate c (Value.iface 143 (.agg #[])))[j]? = some v → W.cell? ((⟨g, 0, none⟩ : Addr).add j) = some v) := Lib.hid fun W e j v hj => by
          rw [List.getElem?_replicate] at hj
          split at hj
          · cases hj
            rw [add_off, Nat.zero_add]
            have h1 := HR.out.row
            rw [← e] at h1
            have h2 := repRow_get (Value.iface 143 (.agg #[])) (k := k) (n := n) (i := j) (by omega)
            simp [World.cell?, h1, h2]
          · cases hj
        have hfit' : k + (List.replicate c (Value.iface 143 (.agg #[]))).length ≤ (repRow (.iface 143 (.agg #[])) k n).toArray.size := by simp [repRow]; omega
        have hone' : ∀ v ∈ List.replicate c (Value.iface 143 (.agg #[])), v.oneCell' = true := fun v hv => by rw [List.eq_of_mem_replicate hv]; rfl
        have HMIN := Lib.hid hmin'
        have HFIT := Lib.hid hfit'
        have HONE := Lib.hid hone'
        clear hmin' hfit' hone'
        have HC := Lib.hid hc
        have e9 : IntKind.i64.wrap ((k : Int) + (c : Int)) = ((k + c : Nat) : Int) := by rw [IntWalk.i64_in _ (by omega)]; omega
        clear hc
        obtain ⟨w5, hrun, hW5⟩ : ∃ w5, (Builtin.copy_ #[87, 87] 3 #[.slice (some ⟨g, k, none⟩) (n - k) (n - k), .slice (some ⟨g, 0, none⟩) k n]).run Try.prog wr.drew = .ok (natV c) w5 ∧ RepIn w1 w5 g (.iface 143 (.agg #[])) (k + c) n := by
          have h := run_copy_row (P := Try.prog) wr.drew 87 87 3 122 g k (n - k) (n - k) ⟨g, 0, none⟩ k n (repRow (.iface 143 (.agg #[])) k n).toArray 122 (List.replicate c (.iface 143 (.agg #[]))) Try.underlying87 info122s (HRR.out _ rfl) HMIN.out (HSRC.out _ rfl) HFIT.out HONE.out
          refine ⟨_, h.trans (by rw [List.length_replicate]; rfl), ?_⟩
          refine HR.out.more (c := c) (by omega) (W := wr.drew) ⟨rfl, below_drewN (Below.refl _ _) 1⟩ ?_
          rw [List.append_assoc, List.length_replicate]
        have HRUN := Lib.hid hrun
        have HW5 := Lib.hid hW5
        clear hrun hW5 HRR HSRC HMIN HFIT HONE
        go_wp2_with fail
        go_region_held3 (fun W' => (k : Int) < (n : Int)) (exact j1) ((rw [HRUN.out]; go_simp))
        all_goals (go_wp2_with fail)
        all_goals exact ⟨⟨k + c, by omega, fun h => by omega, by go_num, HW5⟩, by simp [intOf]; omega⟩
      · obtain rfl : k = n := by omega
        have HF : Hid (wr.ownsRow w1.heap.size 122 1 (.slice (some ⟨g, 0, none⟩) k k) k (opsV (List.replicate k .theft)) ∧ Below w1.heap.size w1 wr) := Lib.hid (by
          refine ⟨⟨by simp [opsV], .inr ⟨g, k, _, rfl, HR.out.ge, HR.out.row, Nat.le_refl _, by omega, by simp [repRow], ?_⟩⟩, HR.out.bel⟩
          simp [repRow, opsV, opV])
        clear HR
        go_wp2
        go_ret
        exact ⟨_, rfl, HF.out.1, HF.out.2⟩
set_option maxRecDepth 100000 in
set_option maxHeartbeats 1000000 in
theorem newThief_any (w : World) (n : Nat) (hn : n ≤ 60) : Calls Try.prog 65 #[natV n] w (newAc w (List.replicate n .theft)) := by
  have HB0 : Hid (Blk ((w.alloc (.cells #[.slice none 0 0, .nilFunc, .slice none 0 0] 91)).alloc (.cells #[.iface 143 (.agg #[])] 122)) (w.heap.size + 1) [.iface 143 (.agg #[])] ∧ Blk ((w.alloc (.cells #[.slice none 0 0, .nilFunc, .slice none 0 0] 91)).alloc (.cells #[.iface 143 (.agg #[])] 122)) w.heap.size [.slice none 0 0, .nilFunc, .slice none 0 0]) := Lib.hid (by
    have h1 := Blk.new (w.alloc (.cells #[.slice none 0 0, .nilFunc, .slice none 0 0] 91)) #[.iface 143 (.agg #[])] 122
    rw [World.size_alloc] at h1
    exact ⟨h1, (Blk.new w _ _).alloc _⟩)
  have HBW : Hid (Below w.heap.size w ((w.alloc (.cells #[.slice none 0 0, .nilFunc, .slice none 0 0] 91)).alloc (.cells #[.iface 143 (.agg #[])] 122))) := Lib.hid (bAl (bAl (Below.refl _ _) _) _)
  have R := Lib.hid (repeat_any ((w.alloc (.cells #[.slice none 0 0, .nilFunc, .slice none 0 0] 91)).alloc (.cells #[.iface 143 (.agg #[])] 122)) (w.heap.size + 1) n hn HB0.out.1.lt (HB0.out.1.cell 0 _ rfl))
  unfold newAc
  go_enter Try.func65, Try.ntmps65
  go_wp2_with fail
  refine R.out.mono ?_
  rintro e w2 ⟨v', rfl, hrow, hb⟩
  have hB2 := HB0.out.2.below hb HB0.out.2.lt
  have HB2 := Lib.hid hB2
  have HBl := Lib.hid (HBW.out.trans (hb.mono HBW.out.size))
  have HROW := Lib.hid hrow
  obtain ⟨vp, vc, rfl⟩ := slice_form hrow
  have x0 := hB2.cell 0 _ rfl
  have x1 := hB2.cell 1 _ rfl
  have x2 := hB2.cell 2 _ rfl
  have z0 := hB2.fz 0
  have z1 := hB2.fz 1
  have z2 := hB2.fz 2
  have hl := hB2.lt
  have hB3 := ((HB2.out.set (o := 0) (by simp) (.slice vp n vc)).set (o := 1) (by simp) .nilFunc).set (o := 2) (by simp) (.slice none 0 0)
  have r0 := hB3.cell 0 _ rfl
  have r1 := hB3.cell 1 _ rfl
  have r2 := hB3.cell 2 _ rfl
  have HR3 : Hid ((((w2.setCell ⟨w.heap.size, 0, none⟩ (.slice vp n vc)).setCell ⟨w.heap.size, 1, none⟩ .nilFunc).setCell ⟨w.heap.size, 2, none⟩ (.slice none 0 0)).ownsRow w.heap.size 122 1 (.slice vp n vc) (List.replicate n St.Op.theft).length (opsV (List.replicate n .theft))) := Lib.hid (by
    have hF : Fr (fun x => x = w.heap.size) w2 (((w2.setCell ⟨w.heap.size, 0, none⟩ (.slice vp n vc)).setCell ⟨w.heap.size, 1, none⟩ .nilFunc).setCell ⟨w.heap.size, 2, none⟩ (.slice none 0 0)) := ((frA w2 _ _ _).trans (frA _ _ _ _)).trans (frA _ _ _ _)
    have h5 := owns_fr HROW.out hF (fun x e hx => by have := (HROW.out.lt x e).1; simp at this; omega)
    rw [List.length_replicate]
    exact ⟨h5.1, h5.2.imp id fun ⟨g, c, cur, a, i, d⟩ => ⟨g, c, cur, a, by simp at i; omega, d⟩⟩)
  have HB4 : Hid (Below w.heap.size w (((w2.setCell ⟨w.heap.size, 0, none⟩ (.slice vp n vc)).setCell ⟨w.heap.size, 1, none⟩ .nilFunc).setCell ⟨w.heap.size, 2, none⟩ (.slice none 0 0))) := Lib.hid (bSt (bSt (bSt HBl.out (Nat.le_refl _) _ _) (Nat.le_refl _) _ _) (Nat.le_refl _) _ _)
  clear hB2 hrow hb R HROW HBW HB0
  go_wp2
  refine bodyPost_ret (v := .agg #[.slice vp n vc, .nilFunc, .slice none 0 0]) (by simp [results, Try.f65, go_sem, r0, r1, r2]) rfl ?_
  exact ⟨_, rfl, HR3.out, HB4.out⟩
end Go.Proofs.Ytajccigefoddiaa
