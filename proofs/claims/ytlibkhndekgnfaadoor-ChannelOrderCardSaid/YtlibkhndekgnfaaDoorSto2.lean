/- What a send does that meets no receiver. -/
import Derived.Test.YtlibkhndekgnfaaDoorStore
namespace Go.Proofs.YtlibkhndekgnfaaDoor
open Go.RowKit

def storePost (w : World) (b : Nat) (ns : List Nat) (c : Cn.St) (v : Cn.V) (e : Ending) (w' : World) : Prop :=
  e = .returned (.bool (Cn.store c v).2) ∧ Rep w' b ns (Cn.store c v).1 ∧ Fr [b] w w'

/-- The cells of a channel that are read often. -/
theorem Rep.cells {w : World} {b : Nat} {ns : List Nat} {c : Cn.St} (h : Rep w b ns c) :
    w.cell? ⟨b, 0, none⟩ = some (.int .i64 c.cap) ∧ w.cell? ⟨b, 1, none⟩ = some (.int .i64 c.pol) ∧ w.cell? ⟨b, 2, none⟩ = some (.bool c.closed) ∧ w.cell? ⟨b, 52, none⟩ = some (.int .i64 c.buf.length) ∧ w.cell? ⟨b, 54, none⟩ = some (.int .i64 c.dropped) ∧
    (∀ o, w.frozen? ⟨b, o, none⟩ = false) ∧ b < w.heap.size ∧ c.buf.length ≤ c.cap ∧ c.cap ≤ 16 ∧ 0 ≤ c.pol ∧ c.pol ≤ 2 := by
  obtain ⟨g, f, hb, hg⟩ := h.ex
  exact ⟨by rw [hb.cell 0 (by omega), hg.g0], by rw [hb.cell 1 (by omega), hg.g1], by rw [hb.cell 2 (by omega), hg.g2], by rw [hb.cell 52 (by omega), hg.g52], by rw [hb.cell 54 (by omega), hg.g54], hb.fz, hb.lt, hg.len, hg.cap, hg.pol.1, hg.pol.2⟩
theorem Rep.drop {w : World} {b : Nat} {ns : List Nat} {c : Cn.St} (h : Rep w b ns c) : Rep (w.setCell ⟨b, 54, none⟩ (.int .i64 (c.dropped + 1))) b ns { c with dropped := c.dropped + 1 } := by
  obtain ⟨g, f, hb, hg⟩ := h.ex
  exact ⟨⟨_, f, hb.set (by omega) _, hg.drop⟩, h.chain.set_other (fun hm => (List.nodup_cons.1 h.nd).1 hm) _, h.nd⟩

theorem frc {A B : World} {L : List Nat} {p : Addr} {v : Value} (h : Fr L A B) (hc : A.cell? p = some v) (hn : p.block ∉ L) (hp : p.block < A.heap.size) : B.cell? p = some v := (h.cell hp hn).trans hc

set_option maxRecDepth 100000 in
set_option maxHeartbeats 4000000 in
theorem store_any (b : Nat) (ns : List Nat) (c : Cn.St) (k n : Int) (s : ByteArray) (w : World) (h : Rep w b ns c) (hd : c.dropped < 4611686018427387904) :
    Calls Tryd.prog 41 #[.pointer (some ⟨b, 0, none⟩), valV k n s] w (storePost w b ns c ⟨k, n, s⟩) := by
  obtain ⟨c0, c1, c2, c52, c54, hfz, hlt, hlen, hcap, hp0, hp2⟩ := h.cells
  have z54 := hfz 54
  have hne : b ≠ w.heap.size := by omega
  clear hfz
  have H := Lib.hid h
  have h1 : Rep (w.alloc (.cells #[.int .i64 k, .int .i64 n, .string s] 37)) b ns c := h.alloc _
  have H1 := Lib.hid h1
  clear h h1
  by_cases hl : c.buf.length < c.cap
  · have HS : Hid (Cn.store c ⟨k, n, s⟩ = ({ c with buf := c.buf ++ [⟨k, n, s⟩] }, true)) := Lib.hid (by simp [Cn.store, hl])
    unfold storePost
    rw [HS.out]
    have P := fun W (hr : Rep W b ns c) => putRep hr hl k n s
    have PP := Lib.hid P
    clear P HS
    go_enter Tryd.func41, Tryd.ntmps41
    go_wp2
    go_quiet (fail)
    go_wp2
    go_region_held3 (fun w' => w'.cell? ⟨w.heap.size, 0, none⟩ = some (.int .i64 k) ∧ w'.cell? ⟨w.heap.size, 1, none⟩ = some (.int .i64 n) ∧ w'.cell? ⟨w.heap.size, 2, none⟩ = some (.string s)) (first | go_keep | exact ⟨frc hF1 (by simp) (by simp; omega) (by simp), frc hF1 (by simp) (by simp; omega) (by simp), frc hF1 (by simp) (by simp; omega) (by simp)⟩) ((go_at_call 44; refine (PP.out _ (H1.out.drewN _)).mono ?_; rintro e w1 ⟨rfl, hR1, hF1⟩))
    all_goals go_wp2
    all_goals go_ret
    all_goals exact ⟨rfl, hR1, (((Fr.refl _ _).alloc _).drewN _).trans hF1⟩
  · by_cases hp : c.pol = 0
    · have HS : Hid (Cn.store c ⟨k, n, s⟩ = (c, false)) := Lib.hid (by simp [Cn.store, hl, hp])
      unfold storePost
      rw [HS.out]
      rw [hp] at c1
      clear hp hp0 hp2 HS
      go_enter Tryd.func41, Tryd.ntmps41
      go_wp2
      go_quiet (fail)
      go_wp2
      go_ret
      exact ⟨rfl, H1.out.drewN _, ((Fr.refl _ _).alloc _).drewN _⟩
    · by_cases hq : c.pol = 1 ∧ 0 < c.cap
      · obtain ⟨hq1, hq2⟩ := hq
        have hbuf : ∃ v0 r0, c.buf = v0 :: r0 := by
          cases e : c.buf with
          | nil => rw [e] at hl; simp at hl; omega
          | cons v0 r0 => exact ⟨_, _, rfl⟩
        obtain ⟨v0, r0, hbf⟩ := hbuf
        have HS : Hid (Cn.store c ⟨k, n, s⟩ = ({ c with buf := r0 ++ [⟨k, n, s⟩], dropped := c.dropped + 1 }, true)) := Lib.hid (by unfold Cn.store; rw [if_neg hl, if_neg hp, if_pos ⟨hq1, hq2⟩, hbf]; rfl)
        unfold storePost
        rw [HS.out]
        have P := fun W (hr : Rep W b ns c) => takeRep hr hbf
        have hr0 : r0.length < c.cap := by rw [hbf] at hlen; simp at hlen; omega
        have P2 := fun W (hr : Rep W b ns { c with buf := r0 }) => putRep hr hr0 k n s
        have PP := Lib.hid P
        have PP2 := Lib.hid P2
        rw [hq1] at c1
        clear P P2 HS hbf hr0 hp hp0 hp2 hq1
        go_enter Tryd.func41, Tryd.ntmps41
        go_wp2
        go_quiet (fail)
        go_wp2_with fail
        refine (PP.out _ (H1.out.drewN _)).mono ?_
        rintro e w1 ⟨rfl, hR1, hF1⟩
        have k0 : w1.cell? ⟨w.heap.size, 0, none⟩ = some (.int .i64 k) := frc hF1 (by simp) (by simp; omega) (by simp)
        have k1 : w1.cell? ⟨w.heap.size, 1, none⟩ = some (.int .i64 n) := frc hF1 (by simp) (by simp; omega) (by simp)
        have k2 : w1.cell? ⟨w.heap.size, 2, none⟩ = some (.string s) := frc hF1 (by simp) (by simp; omega) (by simp)
        have hz : w.heap.size < w1.heap.size := by have := hF1.size; simp at this; omega
        have HR1 := Lib.hid hR1
        have HF1 : Hid (Fr [b] w w1) := Lib.hid ((((Fr.refl _ _).alloc _).drewN _).trans hF1)
        clear hR1 hF1
        go_wp2
        go_region_held3 (fun w' => w'.cell? ⟨w.heap.size, 0, none⟩ = some (.int .i64 k) ∧ w'.cell? ⟨w.heap.size, 1, none⟩ = some (.int .i64 n) ∧ w'.cell? ⟨w.heap.size, 2, none⟩ = some (.string s)) (first | go_keep | exact ⟨frc hF2 (by simp [*]) (by simp; omega) (by simp [*]), frc hF2 (by simp [*]) (by simp; omega) (by simp [*]), frc hF2 (by simp [*]) (by simp; omega) (by simp [*])⟩) ((go_at_call 44; refine (PP2.out _ (HR1.out.drewN _)).mono ?_; rintro e w2 ⟨rfl, hR2, hF2⟩))
        all_goals have HF2 : Hid (Fr [b] w w2) := Lib.hid ((HF1.out.drewN _).trans hF2)
        all_goals have HR2 := Lib.hid hR2
        all_goals have d54 : w2.cell? ⟨b, 54, none⟩ = some (.int .i64 c.dropped) := hR2.cells.2.2.2.2.1
        all_goals have f54 : w2.frozen? ⟨b, 54, none⟩ = false := hR2.cells.2.2.2.2.2.1 54
        all_goals clear hR2 hF2
        all_goals go_wp2
        all_goals go_ret
        all_goals exact ⟨rfl, HR2.out.drop, HF2.out.set (.inl (by simp)) _ _⟩
      · have HS : Hid (Cn.store c ⟨k, n, s⟩ = ({ c with dropped := c.dropped + 1 }, true)) := Lib.hid (by simp only [Cn.store, hl, hp, hq, if_false])
        unfold storePost
        rw [HS.out]
        by_cases hq1 : c.pol = 1
        · have hq2 : c.cap = 0 := by omega
          rw [hq1] at c1
          rw [hq2] at c0
          clear HS hp hp0 hp2 hq hq1 hq2
          go_enter Tryd.func41, Tryd.ntmps41
          go_wp2
          go_quiet (fail)
          go_wp2
          go_ret
          exact ⟨rfl, (H1.out.drewN _).drop, (((Fr.refl _ _).alloc _).drewN _).set (.inl (by simp)) _ _⟩
        · have hq2 : c.pol = 2 := by omega
          rw [hq2] at c1
          clear HS hp hp0 hp2 hq hq1 hq2
          go_enter Tryd.func41, Tryd.ntmps41
          go_wp2
          go_quiet (fail)
          go_wp2
          go_ret
          exact ⟨rfl, (H1.out.drewN _).drop, (((Fr.refl _ _).alloc _).drewN _).set (.inl (by simp)) _ _⟩
end Go.Proofs.YtlibkhndekgnfaaDoor
