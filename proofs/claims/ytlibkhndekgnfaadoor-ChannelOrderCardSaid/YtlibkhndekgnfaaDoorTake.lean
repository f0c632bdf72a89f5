/- What Take does. -/
import Derived.Test.YtlibkhndekgnfaaDoorOffer
namespace Go.Proofs.YtlibkhndekgnfaaDoor
open Go.RowKit

def takeFPost (w : World) (b : Nat) (ns : List Nat) (c : Cn.St) (e : Ending) (w' : World) : Prop :=
  ∃ ns' dv, (∀ x ∈ ns', x ∈ ns) ∧ e = .returned (.tuple #[valV (Cn.take c).2.1.k (Cn.take c).2.1.n (Cn.take c).2.1.s, dv, faultV (Cn.take c).2.2.2.1, .bool (Cn.take c).2.2.2.2]) ∧ DealsAt w' w.heap.size dv (Cn.take c).2.2.1 ∧ Rep w' b ns' (Cn.take c).1 ∧ Fr (b :: ns) w w'

theorem sub_lt {w : World} {b : Nat} {ns ns' : List Nat} {c : Cn.St} (h : Rep w b ns c) (hs : ∀ x ∈ ns', x ∈ ns) : ∀ y ∈ b :: ns', y < w.heap.size := fun y hy => by
  refine h.lt y ?_
  rcases List.mem_cons.1 hy with h | h
  · simp [h]
  · simp [hs y h]

set_option maxRecDepth 100000 in
set_option maxHeartbeats 4000000 in
theorem take_any (b : Nat) (ns : List Nat) (c : Cn.St) (w : World) (h : Rep w b ns c) (henv : Env w) (hpos : ∀ x ∈ b :: ns, 0 < x) :
    Calls Tryd.prog 17 #[.pointer (some ⟨b, 0, none⟩)] w (takeFPost w b ns c) := by
  have H := Lib.hid h
  have HE := Lib.hid henv
  have hlt := h.lt b (by simp)
  have h0 : Rep ((w.alloc (.cells #[.int .i64 0, .int .i64 0, .string noS] 37)).alloc (.cells #[.int .i64 0, .string noS] 45)) b ns c := (h.alloc _).alloc _
  have HR0 := Lib.hid h0
  have bV := (Blk.new w #[.int .i64 0, .int .i64 0, .string noS] 37).alloc (.cells #[.int .i64 0, .string noS] 45)
  have bF := Blk.new (w.alloc (.cells #[.int .i64 0, .int .i64 0, .string noS] 37)) #[.int .i64 0, .string noS] 45
  rw [World.size_alloc] at bF
  have HV := Lib.hid bV
  have HF := Lib.hid bF
  have n0 : w.heap.size ∉ b :: ns := fun hm => by have := H.out.lt _ hm; omega
  have n1 : w.heap.size + 1 ∉ b :: ns := fun hm => by have := H.out.lt _ hm; omega
  have HN := Lib.hid (And.intro n0 n1)
  have HZ := Lib.hid hpos
  clear h henv h0 bV bF n0 n1 hpos
  cases hp : Cn.pick Cn.isS c.wait with
  | none =>
    have RR := Lib.hid (removeS_none HR0.out (fun x W _ => isSender_any x.t x.send x.v.k x.v.n x.v.s W) hp)
    cases hb : c.buf with
    | nil =>
      have HO : Hid (Cn.take c = if c.closed then (c, Cn.zero, [], true, true) else (c, Cn.zero, [], false, false)) := Lib.hid (by simp [Cn.take, hb, hp])
      clear hp
      go_enter Tryd.func17, Tryd.ntmps17
      go_wp2_with fail
      refine RR.out.mono ?_
      rintro e w2 ⟨rfl, ns', hs2, hR2, hF2⟩
      have bV := HV.out.fr hF2 HN.out.1
      have bF := HF.out.fr hF2 HN.out.2
      have v0 : w2.cell? ⟨w.heap.size, 0, none⟩ = some (.int .i64 0) := bV.cell 0 (by decide)
      have v1 : w2.cell? ⟨w.heap.size, 1, none⟩ = some (.int .i64 0) := bV.cell 1 (by decide)
      have v2 : w2.cell? ⟨w.heap.size, 2, none⟩ = some (.string noS) := bV.cell 2 (by decide)
      have f0 : w2.cell? ⟨w.heap.size + 1, 0, none⟩ = some (.int .i64 0) := bF.cell 0 (by decide)
      have f1 : w2.cell? ⟨w.heap.size + 1, 1, none⟩ = some (.string noS) := bF.cell 1 (by decide)
      have y0 := bV.fz 0
      have y1 := bV.fz 1
      have y2 := bV.fz 2
      have z0 := bF.fz 0
      have z1 := bF.fz 1
      have hz2 := bF.lt
      have hz3 := bV.lt
      obtain ⟨-, -, c2, c52, -, -, hb2, -⟩ := hR2.cells
      rw [hb] at c52
      have hE2 := (HE.out.below (((one w _).trans ((one _ _).mono (by simp))))).fr hF2 (fun hm => by have := HZ.out _ hm; omega)
      have hw0 : 0 < w.heap.size := HE.out.pos
      have hw1 : ¬ 0 = w.heap.size := by omega
      have hw2 : ¬ w.heap.size = 0 := by omega
      have HR2 := Lib.hid hR2
      have HF2 := Lib.hid hF2
      have HS2 := Lib.hid hs2
      have HE2 := Lib.hid hE2
      have HB0 : Hid (Below w.heap.size w ((w.alloc (.cells #[.int .i64 0, .int .i64 0, .string noS] 37)).alloc (.cells #[.int .i64 0, .string noS] 45))) := Lib.hid ((one w _).trans ((one _ _).mono (by simp)))
      cases hc : c.closed
      · rw [hc] at c2 HO
        clear hb hR2 hF2 hs2 hE2 bV bF hc RR
        go_wp2
        refine bodyPost_ret (v := .tuple #[valV 0 0 noS, .slice none 0 0, faultV false, .bool false]) (by simp [results, Tryd.results17, go_sem, v0, v1, v2, f0, f1, hz2, hz3, Nat.lt_succ_of_lt hz2, Nat.lt_succ_of_lt hz3]) rfl ?_
        exact ⟨ns', _, HS2.out, by (rw [HO.out]; try rfl), by rw [HO.out]; exact deals_nil _ _, by rw [HO.out]; exact (HR2.out.fr (L := [w.heap.size, w.heap.size + 1]) (by repeat (first | with_reducible exact Fr.refl _ _ | with_reducible refine Fr.set ?_ (by simp) _ _ | with_reducible refine Fr.alloc ?_ _ | with_reducible refine Fr.drew ?_ | with_reducible refine Fr.drewN ?_ _)) (fun y hy => by have := sub_lt H.out HS2.out y hy; simp; omega)), by repeat (first | with_reducible exact (Fr.of_below HB0.out).trans HF2.out | with_reducible refine Fr.set ?_ (.inr (by omega)) _ _ | with_reducible refine Fr.alloc ?_ _ | with_reducible refine Fr.drew ?_ | with_reducible refine Fr.drewN ?_ _)⟩
      · rw [hc] at c2 HO
        have e0 := HE2.out.1
        have e1 := HE2.out.2
        have hp0 : 0 < w2.heap.size := by omega
        clear hb hR2 hF2 hs2 hE2 bV bF hc RR
        go_wp2_with fail
        go_region_held3 (fun w' => w'.cell? ⟨0, 0, none⟩ = some (.int .i64 1) ∧ w'.cell? ⟨0, 1, none⟩ = some (.string closedS)) (go_keep) (fail)
        all_goals go_wp2
        all_goals refine bodyPost_ret (v := .tuple #[valV 0 0 noS, .slice none 0 0, faultV true, .bool true]) (by simp [results, Tryd.results17, go_sem, v0, v1, v2, f0, f1, hz2, hz3, Nat.lt_succ_of_lt hz2, Nat.lt_succ_of_lt hz3]) rfl ?_
        all_goals exact ⟨ns', _, HS2.out, by (rw [HO.out]; try rfl), by rw [HO.out]; exact deals_nil _ _, by rw [HO.out]; exact (HR2.out.fr (L := [w.heap.size, w.heap.size + 1]) (by repeat (first | with_reducible exact Fr.refl _ _ | with_reducible refine Fr.set ?_ (by simp) _ _ | with_reducible refine Fr.alloc ?_ _ | with_reducible refine Fr.drew ?_ | with_reducible refine Fr.drewN ?_ _)) (fun y hy => by have := sub_lt H.out HS2.out y hy; simp; omega)), by repeat (first | with_reducible exact (Fr.of_below HB0.out).trans HF2.out | with_reducible refine Fr.set ?_ (.inr (by omega)) _ _ | with_reducible refine Fr.alloc ?_ _ | with_reducible refine Fr.drew ?_ | with_reducible refine Fr.drewN ?_ _)⟩
    | cons v r =>
      have HO : Hid (Cn.take c = ({ c with buf := r }, v, [], false, true)) := Lib.hid (by simp [Cn.take, hb, hp])
      clear hp
      go_enter Tryd.func17, Tryd.ntmps17
      go_wp2_with fail
      refine RR.out.mono ?_
      rintro e w2 ⟨rfl, ns', hs2, hR2, hF2⟩
      have bV := HV.out.fr hF2 HN.out.1
      have bF := HF.out.fr hF2 HN.out.2
      have v0 : w2.cell? ⟨w.heap.size, 0, none⟩ = some (.int .i64 0) := bV.cell 0 (by decide)
      have v1 : w2.cell? ⟨w.heap.size, 1, none⟩ = some (.int .i64 0) := bV.cell 1 (by decide)
      have v2 : w2.cell? ⟨w.heap.size, 2, none⟩ = some (.string noS) := bV.cell 2 (by decide)
      have f0 : w2.cell? ⟨w.heap.size + 1, 0, none⟩ = some (.int .i64 0) := bF.cell 0 (by decide)
      have f1 : w2.cell? ⟨w.heap.size + 1, 1, none⟩ = some (.string noS) := bF.cell 1 (by decide)
      have y0 := bV.fz 0
      have y1 := bV.fz 1
      have y2 := bV.fz 2
      have z0 := bF.fz 0
      have z1 := bF.fz 1
      have hz2 := bF.lt
      have hz3 := bV.lt
      obtain ⟨-, -, c2, c52, -, -, hb2, -⟩ := hR2.cells
      rw [hb] at c52
      have hE2 := (HE.out.below (((one w _).trans ((one _ _).mono (by simp))))).fr hF2 (fun hm => by have := HZ.out _ hm; omega)
      have hw0 : 0 < w.heap.size := HE.out.pos
      have hw1 : ¬ 0 = w.heap.size := by omega
      have hw2 : ¬ w.heap.size = 0 := by omega
      have HR2 := Lib.hid hR2
      have HF2 := Lib.hid hF2
      have HS2 := Lib.hid hs2
      have HE2 := Lib.hid hE2
      have HB0 : Hid (Below w.heap.size w ((w.alloc (.cells #[.int .i64 0, .int .i64 0, .string noS] 37)).alloc (.cells #[.int .i64 0, .string noS] 45))) := Lib.hid ((one w _).trans ((one _ _).mono (by simp)))
      have HR2' := Lib.hid (hR2.alloc (.cells #[.int .i64 0, .bool false, .int .i64 0, .int .i64 0, .string noS] 59))
      have HBV := Lib.hid (bV.alloc (.cells #[.int .i64 0, .bool false, .int .i64 0, .int .i64 0, .string noS] 59))
      have HBF := Lib.hid (bF.alloc (.cells #[.int .i64 0, .bool false, .int .i64 0, .int .i64 0, .string noS] 59))
      have hbl : (0 : Int) < (v :: r).length := by simp only [List.length_cons]; omega
      have TT := Lib.hid (takeRep HR2'.out hb)
      clear hb hR2 hF2 hs2 hE2 bV bF RR
      go_wp2_with fail
      refine TT.out.mono ?_
      rintro e w3 ⟨rfl, hR3, hF3⟩
      have HV3 := Lib.hid (HBV.out.fr hF3 (by (try simp); try omega))
      have HFF3 := Lib.hid (HBF.out.fr hF3 (by (try simp); try omega))
      clear v0 v1 v2 f0 f1 y0 y1 y2 z0 z1 hz2 hz3
      have v0 : w3.cell? ⟨w.heap.size, 0, none⟩ = some (.int .i64 0) := HV3.out.cell 0 (by decide)
      have v1 : w3.cell? ⟨w.heap.size, 1, none⟩ = some (.int .i64 0) := HV3.out.cell 1 (by decide)
      have v2 : w3.cell? ⟨w.heap.size, 2, none⟩ = some (.string noS) := HV3.out.cell 2 (by decide)
      have f0 : w3.cell? ⟨w.heap.size + 1, 0, none⟩ = some (.int .i64 0) := HFF3.out.cell 0 (by decide)
      have f1 : w3.cell? ⟨w.heap.size + 1, 1, none⟩ = some (.string noS) := HFF3.out.cell 1 (by decide)
      have y0 := HV3.out.fz 0
      have y1 := HV3.out.fz 1
      have y2 := HV3.out.fz 2
      have z0 := HFF3.out.fz 0
      have z1 := HFF3.out.fz 1
      have hz2 := HFF3.out.lt
      have hz3 := HV3.out.lt
      have HR3 := Lib.hid hR3
      have HF3 : Hid (Fr (b :: ns) w w3) := Lib.hid ((((Fr.of_below HB0.out).trans HF2.out).alloc (.cells #[.int .i64 0, .bool false, .int .i64 0, .int .i64 0, .string noS] 59)).trans (hF3.widen (by simp)))
      clear hR3 hF3
      go_wp2
      refine bodyPost_ret (v := .tuple #[valV v.k v.n v.s, .slice none 0 0, faultV false, .bool true]) (by simp [results, Tryd.results17, go_sem, v0, v1, v2, f0, f1, hz2, hz3, Nat.lt_succ_of_lt hz2, Nat.lt_succ_of_lt hz3]) rfl ?_
      exact ⟨ns', _, HS2.out, by (rw [HO.out]; try rfl), by rw [HO.out]; exact deals_nil _ _, by rw [HO.out]; exact (HR3.out.fr (L := [w.heap.size, w.heap.size + 1]) (by repeat (first | with_reducible exact Fr.refl _ _ | with_reducible refine Fr.set ?_ (by simp) _ _ | with_reducible refine Fr.alloc ?_ _ | with_reducible refine Fr.drew ?_ | with_reducible refine Fr.drewN ?_ _)) (fun y hy => by have := sub_lt H.out HS2.out y hy; simp; omega)), by repeat (first | with_reducible exact HF3.out | with_reducible refine Fr.set ?_ (.inr (by omega)) _ _ | with_reducible refine Fr.alloc ?_ _ | with_reducible refine Fr.drew ?_ | with_reducible refine Fr.drewN ?_ _)⟩
  | some xq =>
    obtain ⟨x, q⟩ := xq
    have RR := Lib.hid (removeS_some HR0.out (fun x W _ => isSender_any x.t x.send x.v.k x.v.n x.v.s W) hp)
    cases hb : c.buf with
    | nil =>
      have HO : Hid (Cn.take c = ({ c with wait := q }, x.v, [⟨x.t, Cn.zero, false⟩], false, true)) := Lib.hid (by simp [Cn.take, hb, hp])
      clear hp
      go_enter Tryd.func17, Tryd.ntmps17
      go_wp2_with fail
      refine RR.out.mono ?_
      rintro e w2 ⟨rfl, ns', hs2, hR2, hF2⟩
      have bV := HV.out.fr hF2 HN.out.1
      have bF := HF.out.fr hF2 HN.out.2
      have v0 : w2.cell? ⟨w.heap.size, 0, none⟩ = some (.int .i64 0) := bV.cell 0 (by decide)
      have v1 : w2.cell? ⟨w.heap.size, 1, none⟩ = some (.int .i64 0) := bV.cell 1 (by decide)
      have v2 : w2.cell? ⟨w.heap.size, 2, none⟩ = some (.string noS) := bV.cell 2 (by decide)
      have f0 : w2.cell? ⟨w.heap.size + 1, 0, none⟩ = some (.int .i64 0) := bF.cell 0 (by decide)
      have f1 : w2.cell? ⟨w.heap.size + 1, 1, none⟩ = some (.string noS) := bF.cell 1 (by decide)
      have y0 := bV.fz 0
      have y1 := bV.fz 1
      have y2 := bV.fz 2
      have z0 := bF.fz 0
      have z1 := bF.fz 1
      have hz2 := bF.lt
      have hz3 := bV.lt
      obtain ⟨-, -, c2, c52, -, -, hb2, -⟩ := hR2.cells
      rw [hb] at c52
      have hE2 := (HE.out.below (((one w _).trans ((one _ _).mono (by simp))))).fr hF2 (fun hm => by have := HZ.out _ hm; omega)
      have hw0 : 0 < w.heap.size := HE.out.pos
      have hw1 : ¬ 0 = w.heap.size := by omega
      have hw2 : ¬ w.heap.size = 0 := by omega
      have HR2 := Lib.hid hR2
      have HF2 := Lib.hid hF2
      have HS2 := Lib.hid hs2
      have HE2 := Lib.hid hE2
      have HB0 : Hid (Below w.heap.size w ((w.alloc (.cells #[.int .i64 0, .int .i64 0, .string noS] 37)).alloc (.cells #[.int .i64 0, .string noS] 45))) := Lib.hid ((one w _).trans ((one _ _).mono (by simp)))
      clear hb hR2 hF2 hs2 hE2 bV bF RR
      go_wp2
      refine bodyPost_ret (v := .tuple #[valV x.v.k x.v.n x.v.s, .slice (some ⟨w2.heap.size + 1, 0, none⟩) 1 1, faultV false, .bool true]) (by simp [results, Tryd.results17, go_sem, v0, v1, v2, f0, f1, hz2, hz3, Nat.lt_succ_of_lt hz2, Nat.lt_succ_of_lt hz3]) rfl ?_
      exact ⟨ns', _, HS2.out, by (rw [HO.out]; try rfl), by rw [HO.out]; exact deals_new _ _ _ _ _ (by omega) (by simp), by rw [HO.out]; exact (HR2.out.fr (L := [w.heap.size, w.heap.size + 1]) (by repeat (first | with_reducible exact Fr.refl _ _ | with_reducible refine Fr.set ?_ (by simp) _ _ | with_reducible refine Fr.alloc ?_ _ | with_reducible refine Fr.drew ?_ | with_reducible refine Fr.drewN ?_ _)) (fun y hy => by have := sub_lt H.out HS2.out y hy; simp; omega)), by repeat (first | with_reducible exact (Fr.of_below HB0.out).trans HF2.out | with_reducible refine Fr.set ?_ (.inr (by omega)) _ _ | with_reducible refine Fr.alloc ?_ _ | with_reducible refine Fr.drew ?_ | with_reducible refine Fr.drewN ?_ _)⟩

    | cons v r =>
      have HO : Hid (Cn.take c = ({ c with buf := r ++ [x.v], wait := q }, v, [⟨x.t, Cn.zero, false⟩], false, true)) := Lib.hid (by simp [Cn.take, hb, hp])
      clear hp
      go_enter Tryd.func17, Tryd.ntmps17
      go_wp2_with fail
      refine RR.out.mono ?_
      rintro e w2 ⟨rfl, ns', hs2, hR2, hF2⟩
      have bV := HV.out.fr hF2 HN.out.1
      have bF := HF.out.fr hF2 HN.out.2
      have v0 : w2.cell? ⟨w.heap.size, 0, none⟩ = some (.int .i64 0) := bV.cell 0 (by decide)
      have v1 : w2.cell? ⟨w.heap.size, 1, none⟩ = some (.int .i64 0) := bV.cell 1 (by decide)
      have v2 : w2.cell? ⟨w.heap.size, 2, none⟩ = some (.string noS) := bV.cell 2 (by decide)
      have f0 : w2.cell? ⟨w.heap.size + 1, 0, none⟩ = some (.int .i64 0) := bF.cell 0 (by decide)
      have f1 : w2.cell? ⟨w.heap.size + 1, 1, none⟩ = some (.string noS) := bF.cell 1 (by decide)
      have y0 := bV.fz 0
      have y1 := bV.fz 1
      have y2 := bV.fz 2
      have z0 := bF.fz 0
      have z1 := bF.fz 1
      have hz2 := bF.lt
      have hz3 := bV.lt
      obtain ⟨-, -, c2, c52, -, -, hb2, -⟩ := hR2.cells
      rw [hb] at c52
      have hE2 := (HE.out.below (((one w _).trans ((one _ _).mono (by simp))))).fr hF2 (fun hm => by have := HZ.out _ hm; omega)
      have hw0 : 0 < w.heap.size := HE.out.pos
      have hw1 : ¬ 0 = w.heap.size := by omega
      have hw2 : ¬ w.heap.size = 0 := by omega
      have HR2 := Lib.hid hR2
      have HF2 := Lib.hid hF2
      have HS2 := Lib.hid hs2
      have HE2 := Lib.hid hE2
      have HB0 : Hid (Below w.heap.size w ((w.alloc (.cells #[.int .i64 0, .int .i64 0, .string noS] 37)).alloc (.cells #[.int .i64 0, .string noS] 45))) := Lib.hid ((one w _).trans ((one _ _).mono (by simp)))
      have hbl : (0 : Int) < (v :: r).length := by simp only [List.length_cons]; omega
      have hlen := hR2.cells.2.2.2.2.2.2.2.1
      have hr0 : r.length < c.cap := by have h1 : c.buf.length ≤ c.cap := hlen; rw [hb] at h1; simp at h1; omega
      have HL := Lib.hid (show ({ c with wait := q } : Cn.St).buf = v :: r from hb)
      clear hb hR2 hF2 hs2 hE2 bV bF RR hlen
      go_wp2_with fail
      have HR2' := Lib.hid ((HR2.out.alloc (.cells #[.int .i64 x.t, .bool x.send, .int .i64 x.v.k, .int .i64 x.v.n, .string x.v.s] 59)).alloc (.cells #[.int .i64 x.t, .int .i64 0, .int .i64 0, .int .i64 0, .string noS, .int .i64 0, .string noS] 57))
      have HBV := Lib.hid (((HV.out.fr HF2.out HN.out.1).alloc (.cells #[.int .i64 x.t, .bool x.send, .int .i64 x.v.k, .int .i64 x.v.n, .string x.v.s] 59)).alloc (.cells #[.int .i64 x.t, .int .i64 0, .int .i64 0, .int .i64 0, .string noS, .int .i64 0, .string noS] 57))
      have HBF := Lib.hid (((HF.out.fr HF2.out HN.out.2).alloc (.cells #[.int .i64 x.t, .bool x.send, .int .i64 x.v.k, .int .i64 x.v.n, .string x.v.s] 59)).alloc (.cells #[.int .i64 x.t, .int .i64 0, .int .i64 0, .int .i64 0, .string noS, .int .i64 0, .string noS] 57))
      have HBX := Lib.hid ((Blk.new w2 #[.int .i64 x.t, .bool x.send, .int .i64 x.v.k, .int .i64 x.v.n, .string x.v.s] 59).alloc (.cells #[.int .i64 x.t, .int .i64 0, .int .i64 0, .int .i64 0, .string noS, .int .i64 0, .string noS] 57))
      have TT := Lib.hid (takeRep HR2'.out HL.out)
      refine TT.out.mono ?_
      rintro e w3 ⟨rfl, hR3, hF3⟩
      clear v0 v1 v2 f0 f1 y0 y1 y2 z0 z1
      have HV3 := Lib.hid ((HBV.out.fr hF3 (by (try simp); try omega)).alloc (.cells #[.int .i64 v.k, .int .i64 v.n, .string v.s] 37))
      have HFF3 := Lib.hid ((HBF.out.fr hF3 (by (try simp); try omega)).alloc (.cells #[.int .i64 v.k, .int .i64 v.n, .string v.s] 37))
      have bX := (HBX.out.fr hF3 (by (try simp); try omega))
      have HX3 := Lib.hid (bX.alloc (.cells #[.int .i64 v.k, .int .i64 v.n, .string v.s] 37))
      have x2 : w3.cell? ⟨w2.heap.size, 2, none⟩ = some (.int .i64 x.v.k) := bX.cell 2 (by simp)
      have x3 : w3.cell? ⟨w2.heap.size, 3, none⟩ = some (.int .i64 x.v.n) := bX.cell 3 (by simp)
      have x4 : w3.cell? ⟨w2.heap.size, 4, none⟩ = some (.string x.v.s) := bX.cell 4 (by simp)
      have hx := bX.lt
      have HD3 : Hid (DealsAt w3 w.heap.size (.slice (some ⟨w2.heap.size + 1, 0, none⟩) 1 1) [⟨x.t, Cn.zero, false⟩]) := Lib.hid ((deals_new (w2.alloc (.cells #[.int .i64 x.t, .bool x.send, .int .i64 x.v.k, .int .i64 x.v.n, .string x.v.s] 59)) x.t 0 0 noS (by omega) (by simp)).fr hF3 (by intro k hk; simp [Value.ownBlock] at hk; subst hk; simp; omega))
      have HR3 := Lib.hid (hR3.alloc (.cells #[.int .i64 v.k, .int .i64 v.n, .string v.s] 37))
      have HF3 : Hid (Fr (b :: ns) w w3) := Lib.hid (((((Fr.of_below HB0.out).trans HF2.out).alloc (.cells #[.int .i64 x.t, .bool x.send, .int .i64 x.v.k, .int .i64 x.v.n, .string x.v.s] 59)).alloc (.cells #[.int .i64 x.t, .int .i64 0, .int .i64 0, .int .i64 0, .string noS, .int .i64 0, .string noS] 57)).trans (hF3.widen (by simp)))
      have HBT := Lib.hid (Blk.new w3 #[.int .i64 v.k, .int .i64 v.n, .string v.s] 37)
      have hw3 : w2.heap.size + 1 < w3.heap.size := by have := hF3.size; simp at this; omega
      clear hR3 hF3 bX
      go_wp2_with fail
      go_region_held3 (fun w' => w'.cell? ⟨w2.heap.size, 2, none⟩ = some (.int .i64 x.v.k) ∧ w'.cell? ⟨w2.heap.size, 3, none⟩ = some (.int .i64 x.v.n) ∧ w'.cell? ⟨w2.heap.size, 4, none⟩ = some (.string x.v.s)) (first | go_keep | exact ⟨frc hF4 ((HX3.out.drewN _).cell 2 (by simp)) (by simp; omega) (by simp; omega), frc hF4 ((HX3.out.drewN _).cell 3 (by simp)) (by simp; omega) (by simp; omega), frc hF4 ((HX3.out.drewN _).cell 4 (by simp)) (by simp; omega) (by simp; omega)⟩)
        ((go_at_call 44; refine (putRep (HR3.out.drewN _) hr0 x.v.k x.v.n x.v.s).mono ?_; rintro e w4 ⟨rfl, hR4, hF4⟩))
      have bV := (HV3.out.drewN _).fr hF4 (by (try simp); try omega)
      have bF := (HFF3.out.drewN _).fr hF4 (by (try simp); try omega)
      have bT := (HBT.out.drewN _).fr hF4 (by (try simp); try omega)
      have t0 : w4.cell? ⟨w3.heap.size, 0, none⟩ = some (.int .i64 v.k) := bT.cell 0 (by simp)
      have t1 : w4.cell? ⟨w3.heap.size, 1, none⟩ = some (.int .i64 v.n) := bT.cell 1 (by simp)
      have t2 : w4.cell? ⟨w3.heap.size, 2, none⟩ = some (.string v.s) := bT.cell 2 (by simp)
      have v0 : w4.cell? ⟨w.heap.size, 0, none⟩ = some (.int .i64 0) := bV.cell 0 (by decide)
      have v1 : w4.cell? ⟨w.heap.size, 1, none⟩ = some (.int .i64 0) := bV.cell 1 (by decide)
      have v2 : w4.cell? ⟨w.heap.size, 2, none⟩ = some (.string noS) := bV.cell 2 (by decide)
      have f0 : w4.cell? ⟨w.heap.size + 1, 0, none⟩ = some (.int .i64 0) := bF.cell 0 (by decide)
      have f1 : w4.cell? ⟨w.heap.size + 1, 1, none⟩ = some (.string noS) := bF.cell 1 (by decide)
      have y0 := bV.fz 0
      have y1 := bV.fz 1
      have y2 := bV.fz 2
      have z0 := bF.fz 0
      have z1 := bF.fz 1
      have hq2 := hz2
      clear hz2 hz3
      have hz2 := bF.lt
      have hz3 := bV.lt
      have HD4 : Hid (DealsAt w4 w.heap.size (.slice (some ⟨w2.heap.size + 1, 0, none⟩) 1 1) [⟨x.t, Cn.zero, false⟩]) := Lib.hid (((HD3.out.below (one _ (.cells #[.int .i64 v.k, .int .i64 v.n, .string v.s] 37))).drewN _).fr hF4 (by intro k hk; simp [Value.ownBlock] at hk; subst hk; simp only [List.mem_singleton]; omega))
      have HR4 := Lib.hid hR4
      have HF4 : Hid (Fr (b :: ns) w w4) := Lib.hid (((HF3.out.alloc (.cells #[.int .i64 v.k, .int .i64 v.n, .string v.s] 37)).drewN _).trans (hF4.widen (by simp)))
      clear hR4 hF4 bV bF bT
      go_wp2
      refine bodyPost_ret (v := .tuple #[valV v.k v.n v.s, .slice (some ⟨w2.heap.size + 1, 0, none⟩) 1 1, faultV false, .bool true]) (by simp [results, Tryd.results17, go_sem, v0, v1, v2, f0, f1, hz2, hz3, Nat.lt_succ_of_lt hz2, Nat.lt_succ_of_lt hz3]) rfl ?_
      exact ⟨ns', _, HS2.out, by (rw [HO.out]; try rfl), by rw [HO.out]; exact HD4.out.fr (L := [w.heap.size, w.heap.size + 1]) (by repeat (first | with_reducible exact Fr.refl _ _ | with_reducible refine Fr.set ?_ (by simp) _ _ | with_reducible refine Fr.alloc ?_ _ | with_reducible refine Fr.drew ?_ | with_reducible refine Fr.drewN ?_ _)) (by intro k hk; simp [Value.ownBlock] at hk; subst hk; simp; omega), by rw [HO.out]; exact (HR4.out.fr (L := [w.heap.size, w.heap.size + 1]) (by repeat (first | with_reducible exact Fr.refl _ _ | with_reducible refine Fr.set ?_ (by simp) _ _ | with_reducible refine Fr.alloc ?_ _ | with_reducible refine Fr.drew ?_ | with_reducible refine Fr.drewN ?_ _)) (fun y hy => by have := sub_lt H.out HS2.out y hy; simp; omega)), by repeat (first | with_reducible exact HF4.out | with_reducible refine Fr.set ?_ (.inr (by omega)) _ _ | with_reducible refine Fr.alloc ?_ _ | with_reducible refine Fr.drew ?_ | with_reducible refine Fr.drewN ?_ _)⟩

end Go.Proofs.YtlibkhndekgnfaaDoor
