/- What the scanner's method sign returns: the sign that begins at the scanner's position, if there is one. -/
import Derived.Test.YtbhknpombmdhiaaDoorSigns
namespace Go.Proofs.YtbhknpombmdhiaaDoor
open Go.RowKit

theorem signTok_hit {r : List UInt8} {k : Nat} (h1 : 1 ≤ k) (h2 : k ≤ 2) (hk : k ≤ r.length) (hm : ∀ j, k < j → j ≤ 2 → j ≤ r.length → Lx.isSign (r.take j) = false) (hh : Lx.isSign (r.take k) = true) : Lx.signTok r = some (4, r.take k, k) := by
  unfold Lx.signTok
  by_cases e : k = 2
  · subst e
    rw [if_pos ⟨hk, hh⟩]
  · obtain rfl : k = 1 := by omega
    rw [if_neg, if_pos ⟨hk, hh⟩]
    rintro ⟨a, b⟩
    rw [hm 2 (by omega) (by omega) a] at b
    cases b
theorem signTok_miss {r : List UInt8} (hm : ∀ j, 0 < j → j ≤ 2 → j ≤ r.length → Lx.isSign (r.take j) = false) : Lx.signTok r = none := by
  unfold Lx.signTok
  rw [if_neg, if_neg]
  · rintro ⟨a, b⟩; rw [hm 1 (by omega) (by omega) a] at b; cases b
  · rintro ⟨a, b⟩; rw [hm 2 (by omega) (by omega) a] at b; cases b

set_option maxRecDepth 100000 in
set_option maxHeartbeats 1600000 in
theorem sign_any (S Bm n : Nat) (src : ByteArray) (a : Nat) (w : World) (_hs : src.size < 4294967281) (ha : a < src.size) (c0 : w.cell? ⟨S, 0, none⟩ = some (.string src)) (c1 : w.cell? ⟨S, 1, none⟩ = some (.int .i64 a)) (c3 : w.cell? ⟨S, 3, none⟩ = some (.map (some Bm))) (hm : Signs w Bm n Lx.signList) :
    Calls Tryd.prog 61 #[.pointer (some ⟨S, 0, none⟩)] w fun e w' => e = .returned (tokV (Lx.signTok (src.data.toList.drop a))) ∧ Below w.heap.size w w' := by
  have hS := size_of_cell c0
  have c0' : ∀ o, (w.alloc o).cell? ⟨S, 0, none⟩ = some (.string src) := fun o => by rw [World.cell?_alloc_past _ _ _ hS]; exact c0
  have c1' : ∀ o, (w.alloc o).cell? ⟨S, 1, none⟩ = some (.int .i64 a) := fun o => by rw [World.cell?_alloc_past _ _ _ hS]; exact c1
  have h0 : 0 ≤ (a : Int) := by omega
  have h1 : (a : Int) ≤ src.size := by omega
  have HRL : Hid ((src.data.toList.drop a).length = src.size - a) := Lib.hid (by rw [List.length_drop, list_len])
  have HM := Lib.hid hm
  have HMl := hm.lt
  clear hm
  go_enter Tryd.func61, Tryd.ntmps61
  go_wp2_with fail
  go_quiet (fail)
  go_wp2_with fail
  have hW0 := new1 w (.cells #[.int .i64 0, .string ⟨#[]⟩, .int .i64 0] 47) nq
  have hWz : ((w.alloc (.cells #[.int .i64 0, .string ⟨#[]⟩, .int .i64 0] 47)).drewN nq).heap.size = w.heap.size + 1 := World.size_alloc _ _
  have HW0 := Lib.hid hW0
  have K3 : Hid (∀ wr, Below (w.heap.size + 1) ((w.alloc (.cells #[.int .i64 0, .string ⟨#[]⟩, .int .i64 0] 47)).drewN nq) wr → wr.cell? ⟨w.heap.size, 0, none⟩ = some (.int .i64 0) ∧ wr.cell? ⟨w.heap.size, 1, none⟩ = some (.string ⟨#[]⟩) ∧ wr.cell? ⟨w.heap.size, 2, none⟩ = some (.int .i64 0) ∧
    wr.frozen? ⟨w.heap.size, 0, none⟩ = false ∧ wr.frozen? ⟨w.heap.size, 1, none⟩ = false ∧ wr.frozen? ⟨w.heap.size, 2, none⟩ = false ∧ w.heap.size < wr.heap.size) := Lib.hid fun wr h => keep3 (h.mono (Nat.le_of_eq hWz))
  have HZ := Lib.hid hWz
  have HC3 := Lib.hid c3
  clear hW0 hWz c0 c1 c0' c1' c3
  go_loopw [5] (fun i wr => ∃ k : Nat, k ≤ 2 ∧ k ≤ src.size - a ∧ i = .int .i64 k ∧ Below (w.heap.size + 1) ((w.alloc (.cells #[.int .i64 0, .string ⟨#[]⟩, .int .i64 0] 47)).drewN nq) wr ∧ Hid (∀ j, k < j → j ≤ 2 → j ≤ (src.data.toList.drop a).length → Lx.isSign ((src.data.toList.drop a).take j) = false)) (fun i _ => (intOf i).toNat)
  case atStart => exact ⟨min 2 (src.size - a), by omega, by omega, by congr 1; omega, Below.refl _ _, Lib.hid fun j h1 h2 h3 => by rw [HRL.out] at h3; omega⟩
  case round =>
    obtain ⟨k, hk2, hk, rfl, hB, hQ⟩ := hrel
    obtain ⟨x0, x1, x2, y0, y1, y2, hz⟩ := K3.out _ hB
    have hBz := hB.size
    rw [HZ.out] at hBz
    have hBW := HW0.out.trans (hB.mono (by omega))
    have d0 : wr.cell? ⟨S, 3, none⟩ = some (.map (some Bm)) := (hBW.cell (p := ⟨S, 3, none⟩) hS).trans HC3.out
    have HBW := Lib.hid hBW
    have HB := Lib.hid hB
    have hM := HM.out.below hBW HMl
    clear hB hBW
    by_cases hk0 : 0 < k
    · have hns : ((src.extract a src.size).extract 0 k).size < 4294967281 := by simp; omega
      have L0 := hM.look _ hns
      have L1 : ∀ q, (Instr.lookup 54 (.map (some Bm)) (.string ((src.extract a src.size).extract 0 k)) false).run Tryd.prog (wr.drewN q) = .ok (.bool (Lx.isSign ((src.extract a src.size).extract 0 k).data.toList)) (wr.drewN q) := fun q => Signs.look (w := wr.drewN q) (HM.out.below (_root_.Go.below_drewN HBW.out q) HMl) _ hns
      rw [head_list, rest_list] at L0
      simp only [head_list, rest_list] at L1
      have ht : (⟨((src.data.toList.drop a).take k).toArray⟩ : ByteArray) = (src.extract a src.size).extract 0 k := WideShapes.bytes_inj (by rw [head_list, rest_list])
      have HT := Lib.hid ht
      clear ht hM
      cases hh : Lx.isSign ((src.data.toList.drop a).take k)
      · have hQ' : Hid (∀ j, k - 1 < j → j ≤ 2 → j ≤ (src.data.toList.drop a).length → Lx.isSign ((src.data.toList.drop a).take j) = false) := Lib.hid fun j h1 h2 h3 => by
          by_cases e : j = k
          · rw [e]; exact hh
          · exact hQ.out j (by omega) h2 h3
        rw [hh] at L0
        simp only [hh] at L1
        clear hh hQ
        go_wp2_with fail
        go_quiet (fail)
        go_wp2_with fail
        go_roundw
        case rel => exact ⟨k - 1, by omega, by omega, by go_num, _root_.Go.below_drewN HB.out _, hQ'⟩
        case measure => simp [intOf]; omega
      · have E1 := Lib.hid (signTok_hit (by omega) hk2 (by rw [HRL.out]; exact hk) hQ.out hh)
        rw [hh] at L0
        simp only [hh] at L1
        clear hh hQ
        go_wp2_with fail
        go_quiet (fail)
        go_wp2
        exact bodyPost_ret (v := tokV (some (4, (src.data.toList.drop a).take k, k))) (by simp only [tokV, HT.out]; simp [results, Tryd.results61, go_sem, x0, x1, x2]) rfl ⟨by rw [E1.out], (by repeat (first | exact HBW.out | exact _root_.Go.below_drewN HBW.out _ | refine Below.setCell ?_ (by simp) _))⟩
    · obtain rfl : k = 0 := by omega
      have E1 := Lib.hid (signTok_miss (r := src.data.toList.drop a) (fun j h1 h2 h3 => hQ.out j h1 h2 h3))
      clear hQ hM
      go_wp2
      exact bodyPost_ret (v := tokV none) (by simp [results, Tryd.results61, go_sem, tokV, x0, x1, x2]) rfl ⟨by rw [E1.out], (by repeat (first | exact HBW.out | refine Below.setCell ?_ (by simp) _))⟩

end Go.Proofs.YtbhknpombmdhiaaDoor
