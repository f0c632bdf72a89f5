/- What Offer does. -/
import Derived.Test.YtlibkhndekgnfaaDoorSto2
import Derived.Test.YtlibkhndekgnfaaDoorRem2
namespace Go.Proofs.YtlibkhndekgnfaaDoor
open Go.RowKit

abbrev closedS : ByteArray := ⟨#[99, 108, 111, 115, 101, 100]⟩
/-- The listed variable holds the fault of what is closed. -/
def Env (w : World) : Prop := w.cell? ⟨0, 0, none⟩ = some (.int .i64 1) ∧ w.cell? ⟨0, 1, none⟩ = some (.string closedS)
theorem Env.pos {w : World} (h : Env w) : 0 < w.heap.size := by
  rcases Nat.eq_zero_or_pos w.heap.size with e | e
  · have : w.heap[0]? = none := Array.getElem?_eq_none (by omega)
    have h1 := h.1
    simp [World.cell?, this] at h1
  · exact e
theorem Env.fr {w w' : World} {L : List Nat} (h : Env w) (hf : Fr L w w') (hL : 0 ∉ L) : Env w' := ⟨frc hf h.1 hL h.pos, frc hf h.2 hL h.pos⟩
theorem Env.below {w w' : World} (h : Env w) (hb : Below w.heap.size w w') : Env w' := h.fr (L := []) (Fr.of_below hb) (by simp)

abbrev faultV (b : Bool) : Value := .agg #[.int .i64 (if b then 1 else 0), .string (if b then closedS else noS)]
/-- The cells of a deal. -/
def dealCells (d : Cn.Dl) : List Value := [.int .i64 d.who, .int .i64 0, .int .i64 d.v.k, .int .i64 d.v.n, .string d.v.s, .int .i64 (if d.cl then 1 else 0), .string (if d.cl then closedS else noS)]
def DealsAt (W : World) (base : Nat) (v : Value) (l : List Cn.Dl) : Prop := W.ownsRow base 57 7 v l.length (l.flatMap dealCells) ∧ (v = .slice none 0 0 ↔ l = [])
theorem deals_nil (W : World) (base : Nat) : DealsAt W base (.slice none 0 0) [] := ⟨World.ownsRow_nil _ _ _ _, by simp⟩
theorem deals_one {W : World} {base B : Nat} {d : Cn.Dl} (hB : base ≤ B) (h : W.heap[B]? = some (.cells (dealCells d).toArray 57 (0, 0))) : DealsAt W base (.slice (some ⟨B, 0, none⟩) 1 1) [d] := by
  refine ⟨⟨rfl, .inr ⟨B, 1, _, rfl, hB, h, Nat.le_refl _, by decide, rfl, rfl⟩⟩, by simp⟩

theorem deals_new (W : World) {base B : Nat} (t k n : Int) (s : ByteArray) (hb : base ≤ B) (hB : W.heap.size = B) : DealsAt (W.alloc (.cells #[.int .i64 t, .int .i64 0, .int .i64 k, .int .i64 n, .string s, .int .i64 0, .string noS] 57)) base (.slice (some ⟨B, 0, none⟩) 1 1) [⟨t, ⟨k, n, s⟩, false⟩] :=
  deals_one hb (by rw [← hB]; exact heap_alloc_new W _)

theorem owns_fr {W W' : World} {b n sz : Nat} {t : TypeId} {v : Value} {xs : List Value} {L : List Nat} (h : W.ownsRow b t sz v n xs) (hf : Fr L W W') (hL : ∀ k, v.ownBlock = some k → k ∉ L) : W'.ownsRow b t sz v n xs := by
  refine ⟨h.1, ?_⟩
  rcases h.2 with h0 | ⟨g, cap, cur, e, hbg, hg, r⟩
  · exact .inl h0
  · exact .inr ⟨g, cap, cur, e, hbg, (hf.block g (Array.getElem?_eq_some_iff.1 hg).1 (hL g (by rw [e]; rfl))).trans hg, r⟩
theorem DealsAt.fr {W W' : World} {b : Nat} {v : Value} {l : List Cn.Dl} {L : List Nat} (h : DealsAt W b v l) (hf : Fr L W W') (hL : ∀ k, v.ownBlock = some k → k ∉ L) : DealsAt W' b v l := ⟨owns_fr h.1 hf hL, h.2⟩
theorem DealsAt.below {W W' : World} {b : Nat} {v : Value} {l : List Cn.Dl} (h : DealsAt W b v l) (hf : Below W.heap.size W W') : DealsAt W' b v l := h.fr (L := []) (Fr.of_below hf) (by simp)

theorem DealsAt.drewN {W : World} {b : Nat} {v : Value} {l : List Cn.Dl} (h : DealsAt W b v l) (n : Nat) : DealsAt (W.drewN n) b v l := h
def offerPost (w : World) (b : Nat) (ns : List Nat) (c : Cn.St) (v : Cn.V) (e : Ending) (w' : World) : Prop :=
  ∃ ns' dv, (∀ x ∈ ns', x ∈ ns) ∧ e = .returned (.tuple #[dv, faultV (Cn.offer c v).2.2.1, .bool (Cn.offer c v).2.2.2]) ∧ DealsAt w' w.heap.size dv (Cn.offer c v).2.1 ∧ Rep w' b ns' (Cn.offer c v).1 ∧ Fr (b :: ns) w w'

set_option maxRecDepth 100000 in
set_option maxHeartbeats 4000000 in
theorem offer_any (b : Nat) (ns : List Nat) (c : Cn.St) (k n : Int) (s : ByteArray) (w : World) (h : Rep w b ns c) (henv : Env w) (hv : validB k n s = true) (hs : s.size ≤ 9223372036854775807) (hd : c.dropped < 4611686018427387904) :
    Calls Tryd.prog 16 #[.pointer (some ⟨b, 0, none⟩), valV k n s] w (offerPost w b ns c ⟨k, n, s⟩) := by
  have V := fun w => valid_any k n s w hs
  rw [hv] at V
  have VV := Lib.hid V
  have H := Lib.hid h
  have HE := Lib.hid henv
  have hlt := h.lt b (by simp)
  clear V hv h henv
  go_enter Tryd.func16, Tryd.ntmps16
  go_wp2_with fail
  refine (VV.out _).mono ?_
  rintro e w1 ⟨rfl, hb1⟩
  have hB1 : Below w.heap.size w w1 := ((one w _).trans ((one _ _).mono (by simp))).trans (hb1.mono (by simp; omega))
  have hR1 := H.out.below hB1
  have hE1 := HE.out.below hB1
  have c2 := hR1.cells.2.2.1
  have bA : Blk w1 w.heap.size 3 _ := ((Blk.new w #[.int .i64 k, .int .i64 n, .string s] 37).alloc (.cells #[.int .i64 0, .string noS] 45)).below hb1 (by simp; omega)
  have bF : Blk w1 ((w.alloc (.cells #[.int .i64 k, .int .i64 n, .string s] 37)).heap.size) 2 _ := (Blk.new (w.alloc (.cells #[.int .i64 k, .int .i64 n, .string s] 37)) #[.int .i64 0, .string noS] 45).below hb1 (by simp)
  rw [World.size_alloc] at bF
  have hz1 := bF.lt
  have hz0 := bA.lt
  have HR1 := Lib.hid hR1
  have HE1 := Lib.hid hE1
  have HB1 := Lib.hid hB1
  have HA := Lib.hid bA
  have HF := Lib.hid bF
  clear hR1 hE1 hB1 VV hb1 bA bF
  cases hc : c.closed
  · rw [hc] at c2
    cases hp : Cn.pick Cn.isR c.wait with
    | some xr =>
      obtain ⟨x, r⟩ := xr
      have HO : Hid (Cn.offer c ⟨k, n, s⟩ = ({ c with wait := r }, [⟨x.t, ⟨k, n, s⟩, false⟩], false, true)) := Lib.hid (by simp [Cn.offer, hc, hp])
      have RR := Lib.hid (removeR_some HR1.out (fun x W _ => isReceiver_any x.t x.send x.v.k x.v.n x.v.s W) hp)
      clear hp
      go_wp2_with fail
      refine RR.out.mono ?_
      rintro e w2 ⟨rfl, ns', hs2, hR2, hF2⟩
      have a0 : w2.cell? ⟨w.heap.size, 0, none⟩ = some (.int .i64 k) := frc hF2 (HA.out.cell 0 (by omega)) (fun hm => by have := H.out.lt _ hm; simp at this) hz0
      have a1 : w2.cell? ⟨w.heap.size, 1, none⟩ = some (.int .i64 n) := frc hF2 (HA.out.cell 1 (by omega)) (fun hm => by have := H.out.lt _ hm; simp at this) hz0
      have a2 : w2.cell? ⟨w.heap.size, 2, none⟩ = some (.string s) := frc hF2 (HA.out.cell 2 (by omega)) (fun hm => by have := H.out.lt _ hm; simp at this) hz0
      have bF := HF.out.fr hF2 (fun hm => by have := H.out.lt _ hm; omega)
      have f0 : w2.cell? ⟨w.heap.size + 1, 0, none⟩ = some (.int .i64 0) := bF.cell 0 (by omega)
      have f1 : w2.cell? ⟨w.heap.size + 1, 1, none⟩ = some (.string noS) := bF.cell 1 (by omega)
      have z0 := bF.fz 0
      have z1 := bF.fz 1
      have hz2 := bF.lt
      have hz3 : w.heap.size < w2.heap.size := by omega
      have HR2 := Lib.hid hR2
      have HF2 := Lib.hid hF2
      have HS2 := Lib.hid hs2
      clear hR2 hF2 hs2 bF
      go_wp2
      refine bodyPost_ret (v := .tuple #[.slice (some ⟨w2.heap.size + 1, 0, none⟩) 1 1, faultV false, .bool true]) (by simp [results, Tryd.results16, go_sem, f0, f1, hz2, Nat.lt_succ_of_lt hz2]) rfl ?_
      exact ⟨ns', _, HS2.out, by rw [HO.out], by
          rw [HO.out]
          refine deals_one (B := w2.heap.size + 1) (d := ⟨x.t, ⟨k, n, s⟩, false⟩) (by omega) ?_
          have := heap_alloc_new (((w2.setCell ⟨w.heap.size + 1, 0, none⟩ (.int .i64 0)).setCell ⟨w.heap.size + 1, 1, none⟩ (.string noS)).alloc (.cells #[.int .i64 x.t, .bool x.send, .int .i64 x.v.k, .int .i64 x.v.n, .string x.v.s] 59)) (.cells #[.int .i64 x.t, .int .i64 0, .int .i64 k, .int .i64 n, .string s, .int .i64 0, .string noS] 57)
          simpa [dealCells] using this,
        by rw [HO.out]; exact ((HR2.out.fr (L := [w.heap.size + 1]) ((((Fr.refl _ _).set (.inl (by simp)) _ _).set (.inl (by simp)) _ _)) (fun y hy => by
          have hy' : y ∈ b :: ns := by
            rcases List.mem_cons.1 hy with h | h
            · simp [h]
            · simp [HS2.out y h]
          have := H.out.lt y hy'; simp; omega)).alloc _).alloc _,
        ((((((Fr.of_below HB1.out).trans HF2.out).set (.inr (by omega)) _ _).set (.inr (by omega)) _ _).alloc _).alloc _)⟩
    | none =>
      have HO : Hid (Cn.offer c ⟨k, n, s⟩ = ((Cn.store c ⟨k, n, s⟩).1, [], false, (Cn.store c ⟨k, n, s⟩).2)) := Lib.hid (by simp [Cn.offer, hc, hp])
      have RR := Lib.hid (removeR_none HR1.out (fun x W _ => isReceiver_any x.t x.send x.v.k x.v.n x.v.s W) hp)
      clear hp
      go_wp2_with fail
      refine RR.out.mono ?_
      rintro e w2 ⟨rfl, ns', hs2, hR2, hF2⟩
      have a0 : w2.cell? ⟨w.heap.size, 0, none⟩ = some (.int .i64 k) := frc hF2 (HA.out.cell 0 (by omega)) (fun hm => by have := H.out.lt _ hm; simp at this) hz0
      have a1 : w2.cell? ⟨w.heap.size, 1, none⟩ = some (.int .i64 n) := frc hF2 (HA.out.cell 1 (by omega)) (fun hm => by have := H.out.lt _ hm; simp at this) hz0
      have a2 : w2.cell? ⟨w.heap.size, 2, none⟩ = some (.string s) := frc hF2 (HA.out.cell 2 (by omega)) (fun hm => by have := H.out.lt _ hm; simp at this) hz0
      have bF := HF.out.fr hF2 (fun hm => by have := H.out.lt _ hm; omega)
      have hz2 := bF.lt
      have hz3 : w.heap.size < w2.heap.size := by omega
      have HR2 := Lib.hid (hR2.alloc (.cells #[.int .i64 0, .bool false, .int .i64 0, .int .i64 0, .string noS] 59))
      have HF2 := Lib.hid hF2
      have HS2 := Lib.hid hs2
      have HBF := Lib.hid bF
      clear hR2 hF2 hs2 bF
      go_wp2_with fail
      refine (store_any b ns' c k n s _ HR2.out hd).mono ?_
      rintro e w3 ⟨rfl, hR3, hF3⟩
      have bF := (HBF.out.alloc (.cells #[.int .i64 0, .bool false, .int .i64 0, .int .i64 0, .string noS] 59)).fr hF3 (by simp; omega)
      have f0 : w3.cell? ⟨w.heap.size + 1, 0, none⟩ = some (.int .i64 0) := bF.cell 0 (by omega)
      have f1 : w3.cell? ⟨w.heap.size + 1, 1, none⟩ = some (.string noS) := bF.cell 1 (by omega)
      have z0 := bF.fz 0
      have z1 := bF.fz 1
      have hz4 := bF.lt
      have HR3 := Lib.hid hR3
      have HF3 := Lib.hid hF3
      clear hR3 hF3 bF
      go_wp2
      refine bodyPost_ret (v := .tuple #[.slice none 0 0, faultV false, .bool (Cn.store c ⟨k, n, s⟩).2]) (by simp [results, Tryd.results16, go_sem, f0, f1]) rfl ?_
      exact ⟨ns', _, HS2.out, by rw [HO.out], by rw [HO.out]; exact deals_nil _ _,
        by rw [HO.out]; exact HR3.out.fr (L := [w.heap.size + 1]) ((((Fr.refl _ _).set (.inl (by simp)) _ _).set (.inl (by simp)) _ _)) (fun y hy => by
          have hy' : y ∈ b :: ns := by
            rcases List.mem_cons.1 hy with h | h
            · simp [h]
            · simp [HS2.out y h]
          have := H.out.lt y hy'; simp; omega),
        (((((Fr.of_below HB1.out).trans HF2.out).alloc _).trans (HF3.out.widen (by simp))).set (.inr (by omega)) _ _).set (.inr (by omega)) _ _⟩
  · rw [hc] at c2
    have f0 : w1.cell? ⟨w.heap.size + 1, 0, none⟩ = some (.int .i64 0) := HF.out.cell 0 (by omega)
    have f1 : w1.cell? ⟨w.heap.size + 1, 1, none⟩ = some (.string noS) := HF.out.cell 1 (by omega)
    have e0 := HE1.out.1
    have e1 := HE1.out.2
    have z0 := HF.out.fz 0
    have z1 := HF.out.fz 1
    have HO : Hid (Cn.offer c ⟨k, n, s⟩ = (c, [], true, true)) := Lib.hid (by simp [Cn.offer, hc])
    go_wp2_with fail
    go_region_held3 (fun w' => w'.cell? ⟨0, 0, none⟩ = some (.int .i64 1) ∧ w'.cell? ⟨0, 1, none⟩ = some (.string closedS)) (go_keep) (fail)
    all_goals go_wp2
    all_goals refine bodyPost_ret (v := .tuple #[.slice none 0 0, faultV true, .bool true]) (by simp [results, Tryd.results16, go_sem, f0, f1]) rfl ?_
    all_goals exact ⟨ns, .slice none 0 0, fun _ h => h, by rw [HO.out], by rw [HO.out]; exact deals_nil _ _, by rw [HO.out]; exact HR1.out.fr (L := [w.heap.size + 1]) (((Fr.refl _ _).set (.inl (by simp)) _ _).set (.inl (by simp)) _ _).drew (fun y hy => by have := H.out.lt y hy; simp; omega), (((Fr.of_below HB1.out).set (.inr (by omega)) _ _).set (.inr (by omega)) _ _).drew⟩
end Go.Proofs.YtlibkhndekgnfaaDoor
