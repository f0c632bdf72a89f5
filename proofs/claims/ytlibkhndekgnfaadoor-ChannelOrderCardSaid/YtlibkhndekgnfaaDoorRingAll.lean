/- The iterator over a channel's buffer. -/
import Derived.Test.YtlibkhndekgnfaaDoorCollect
namespace Go.Proofs.YtlibkhndekgnfaaDoor
open Go.RowKit Go.Shelf

attribute [local go_sem] Oper.semAt_some

set_option maxRecDepth 100000 in
set_option maxHeartbeats 2000000 in
theorem rall1_in (n : Nat) (hn : 2 ≤ n) (l Bn n₀ b f : Nat) (g : Nat → Value) (ns : List Nat) (c : Cn.St) (hg : Fits g f ns c) (hbn : b < n₀) (hBl : Bn < n₀) (J Jx : List Cn.V → World → Prop)
    (hY : ∀ pre x W, J pre W → pre.length < c.buf.length → YieldAt Fence.wide (n - 1) Tryd.prog l (encV x) W fun e W' =>
      (e = .returned (.bool true) ∧ J (pre ++ [x]) W' ∧ Below n₀ W W') ∨ (e = .returned (.bool false) ∧ Jx (pre ++ [x]) W'))
    (W : World) (hJ : ∀ s A k, J s A → J s (A.drewN k)) (hBn : W.cell? ⟨Bn, 0, none⟩ = some (.pointer (some ⟨b, 3, none⟩))) (hblk : Blk W b 55 g) (h0 : J [] W) :
    CallsIn Fence.wide n Tryd.prog 50 #[.func (.yield l) #[] #[], .pointer (some ⟨Bn, 0, none⟩)] W fun e W' => (∃ v, e = .returned v) ∧
      ((∃ ys, ys = c.buf ∧ J ys W') ∨ (∃ pre, pre <+: c.buf ∧ Jx pre W')) := by
  have c52 : W.cell? ⟨b, 52, none⟩ = some (.int .i64 c.buf.length) := by rw [hblk.cell 52 (by omega), hg.g52]
  have hlen := hg.len
  have hcap := hg.cap
  refine callsIn_of_wp Tryd.func50 rfl trivial ?_ rfl
  simp only [Tryd.ntmps50, List.size_toArray, List.length_cons, List.length_nil, Nat.reduceAdd, Nat.reduceSub, Array.replicate_succ, Array.replicate_zero, List.push_toArray, List.append_toArray, List.nil_append, List.cons_append]
  gi_wp2
  gi_loopw [8] (fun i wr => ∃ k : Nat, k ≤ c.buf.length ∧ i = .int .i64 k ∧ J (c.buf.take k) wr ∧ Below n₀ W wr)
    (fun i _ => c.buf.length - (intOf i).toNat)
  case atStart => exact ⟨0, Nat.zero_le _, rfl, by simpa using h0, Below.refl _ _⟩
  case round =>
    obtain ⟨k, hk, rfl, hJs, hnx⟩ := hrel
    by_cases hlt : k < c.buf.length
    · obtain ⟨x, hx⟩ : ∃ x, c.buf[k]? = some x := ⟨_, List.getElem?_eq_getElem hlt⟩
      obtain ⟨r0, r1, r2⟩ := hg.ring k x hx
      have hq16 : (f + k) % 16 < 16 := Nat.mod_lt _ (by omega)
      obtain ⟨q, hq⟩ : ∃ q, (f + k) % 16 = q := ⟨_, rfl⟩
      rw [hq] at r0 r1 r2 hq16
      have hbr := hblk.below hnx hbn
      have d0 := hbr.cell (3 + q * 3) (by omega)
      have d1 := hbr.cell (3 + q * 3 + 1) (by omega)
      have d2 := hbr.cell (3 + q * 3 + 2) (by omega)
      have d51 := hbr.cell 51 (by omega)
      rw [r0] at d0
      rw [r1] at d1
      rw [r2] at d2
      rw [hg.g51] at d51
      have dBn : wr.cell? ⟨Bn, 0, none⟩ = some (.pointer (some ⟨b, 3, none⟩)) := (hnx.cell (p := ⟨Bn, 0, none⟩) hBl).trans hBn
      have CC := Lib.hid (cell_any b f k q wr d51 hg.lt (by omega) hq)
      have HT : Hid (c.buf.take k ++ [x] = c.buf.take (k + 1)) := Lib.hid (by
        rw [List.take_succ_eq_append_getElem hlt]
        have : c.buf[k] = x := by rw [List.getElem?_eq_getElem hlt] at hx; exact Option.some.inj hx
        rw [this])
      have HN := Lib.hid hnx
      clear hq r0 r1 r2 hx hbr c52 hnx
      gi_wp2
      refine ⟨trivial, fun _ => by omega, (callsIn_wide.2 CC.out).mono ?_⟩
      rintro e w' ⟨rfl, nn, rfl⟩
      obtain ⟨fn, tmps, assign, body, hy, hR⟩ := hY (c.buf.take k) x (wr.drewN nn) (hJ _ _ _ hJs) (by rw [List.length_take]; omega)
      gi_wp2
      refine ⟨fun _ => by omega, hR.mono ?_⟩
      rintro e W3 (⟨rfl, hJ3, hk3⟩ | ⟨rfl, hJx3⟩)
      · rw [HT.out] at hJ3
        have HK3 := Lib.hid (below_drewN HN.out nn |>.trans hk3)
        gi_wp2
        go_roundw
        case rel => exact ⟨k + 1, by omega, by go_num, hJ3, HK3.out⟩
        case measure => simp [intOf]; omega
      · rw [HT.out] at hJx3
        gi_wp2
        refine bodyPost_ret (results_none rfl _ _ _) rfl ?_
        exact ⟨⟨_, rfl⟩, .inr ⟨_, List.take_prefix _ _, hJx3⟩⟩
    · obtain rfl : k = c.buf.length := by omega
      rw [List.take_length] at hJs
      gi_wp2
      go_end0
      exact ⟨⟨_, rfl⟩, .inl ⟨c.buf, rfl, hJs⟩⟩

theorem grown_drewN (W : World) (k : Nat) (row : Option Nat) : W.grownBy (W.drewN k) row := ⟨rfl, rfl, rfl, Nat.le_refl _, fun _ _ _ => rfl⟩
/-- The iterator's contract. -/
theorem rall_stops (n : Nat) (hn : 2 ≤ n) (Bn n₀ b f : Nat) (g : Nat → Value) (ns : List Nat) (c : Cn.St) (hg : Fits g f ns c) (hbn : b < n₀) (hBl : Bn < n₀) (w : World) (hn₀ : n₀ ≤ w.heap.size)
    (hc : w.cell? ⟨Bn, 0, none⟩ = some (.pointer (some ⟨b, 3, none⟩))) (hblk : Blk w b 55 g) :
    SeqStopsK Fence.wide n Tryd.prog 50 #[.pointer (some ⟨Bn, 0, none⟩)] encV (Below n₀) (fun ys => ys = c.buf) (fun pre => pre <+: c.buf) c.buf.length w := fun l J Jx W hW hJ _ hY h0 =>
  rall1_in n hn l Bn n₀ b f g ns c hg hbn hBl J Jx hY W (fun s A k hs => hJ s A _ none hs (grown_drewN A k none) (fun r e => by cases e)) ((hW.cell (p := ⟨Bn, 0, none⟩) (by show Bn < _; omega)).trans hc) (hblk.below hW (by omega)) h0
end Go.Proofs.YtlibkhndekgnfaaDoor
