/- ChannelOrder: the user of the channel. -/
import Derived.Test.YtlibkhndekgnfaaDoorOrdRel
namespace Go.Proofs.YtlibkhndekgnfaaDoor
open Go.RowKit

structure BoolsIn (W : World) (p : Option Addr) (n : Nat) (B : Nat → Bool) : Prop where
  at_ : 0 < n → ∃ ab ao, p = some ⟨ab, ao, none⟩ ∧ ab < W.heap.size ∧ ∀ i, i < n → W.cell? ⟨ab, ao + i, none⟩ = some (.bool (B i))
theorem BoolsIn.cell {W W' : World} {p : Option Addr} {n : Nat} {B : Nat → Bool} (h : BoolsIn W p n B) {i : Nat} (hi : i < n) (hb : Below W.heap.size W W') : ∃ ab ao, p = some ⟨ab, ao, none⟩ ∧ ab < W.heap.size ∧ W'.cell? ⟨ab, ao + i, none⟩ = some (.bool (B i)) := by
  obtain ⟨ab, ao, h1, h2, h3⟩ := h.at_ (by omega)
  exact ⟨ab, ao, h1, h2, (hb.cell (p := ⟨ab, ao + i, none⟩) h2).trans (h3 i hi)⟩

theorem Cn.offer_dl {c : Cn.St} (v : Cn.V) (hd : (Cn.offer c v).2.2.2 = false) : (Cn.offer c v).2.1 = [] := by
  obtain ⟨-, h1, h2, h3, h4⟩ := Cn.offer_same v hd
  unfold Cn.offer
  rw [h1, if_neg (by simp), h2]
theorem Cn.take_dl {c : Cn.St} (hd : (Cn.take c).2.2.2.2 = false) : (Cn.take c).2.2.1 = [] ∧ (Cn.take c).2.1 = Cn.zero := by
  obtain ⟨-, h1, h2, h3⟩ := Cn.take_same hd
  unfold Cn.take
  rw [h3, h2, h1]
  exact ⟨rfl, rfl⟩
theorem cell_one_at (w : World) (o : Obj) (x : Value) (t : TypeId) : ∀ j u, [x][j]? = some u → ((w.alloc o).alloc (.cells #[x] t)).cell? ((⟨w.heap.size + 1, 0, none⟩ : Addr).add j) = some u := by
  have h := cell_one_new (w.alloc o) x t
  rw [World.size_alloc] at h
  exact h
theorem cell_one_at2 (w : World) (o o' : Obj) (x : Value) (t : TypeId) : ∀ j u, [x][j]? = some u → (((w.alloc o).alloc o').alloc (.cells #[x] t)).cell? ((⟨w.heap.size + 1 + 1, 0, none⟩ : Addr).add j) = some u := by
  have h := cell_one_new ((w.alloc o).alloc o') x t
  rw [World.size_alloc, World.size_alloc] at h
  exact h
theorem valid_int (i : Nat) (hi : i ≤ 100) : validB 1 (i : Int) noS = true := by
  simp [validB]; omega

def UserRel (w0 : World) (b : Nat) (p : Int) (i : Nat) (vS vR : Value) (wt : World) : Prop := ∃ ns c S R, Om w0 b ns c S R vS vR wt ∧ Cn.Fl i p S R c
/-- The deals of an offer, while their numbers are taken over. -/
def DealRel (w0 : World) (b : Nat) (p : Int) (i : Nat) (S R : List Int) (ds : List Cn.Dl) (vS dv : Value) (ns : List Nat) (c : Cn.St) (j : Nat) (vR : Value) (wt : World) : Prop :=
  Om w0 b ns c S (R ++ (ds.take j).map (fun d => d.v.n)) vS vR wt ∧ RowAt dealCells 7 57 wt 0 dv ds ∧ (∀ k, dv.ownBlock = some k → vR.ownBlock ≠ some k) ∧ Cn.Fl i p S (R ++ ds.map (fun d => d.v.n)) c
def userPost (w0 : World) (b : Nat) (p : Int) (n : Nat) (e : Ending) (w' : World) : Prop := ∃ vS vR, e = .returned (.tuple #[vS, vR, .bool true]) ∧ UserRel w0 b p n vS vR w'

theorem deal_cells {l : List Cn.Dl} {W : World} {base g n cap : Nat} (h : RowAt dealCells 7 57 W base (.slice (some ⟨g, 0, none⟩) n cap) l) {j : Nat} {x : Cn.Dl} (hx : l[j]? = some x) :
    W.cell? ⟨g, j * 7, none⟩ = some (.int .i64 x.who) ∧ W.cell? ⟨g, j * 7 + 1, none⟩ = some (.int .i64 0) ∧ W.cell? ⟨g, j * 7 + 2, none⟩ = some (.int .i64 x.v.k) ∧ W.cell? ⟨g, j * 7 + 3, none⟩ = some (.int .i64 x.v.n) ∧ W.cell? ⟨g, j * 7 + 4, none⟩ = some (.string x.v.s) ∧ W.cell? ⟨g, j * 7 + 5, none⟩ = some (.int .i64 (if x.cl then 1 else 0)) ∧ W.cell? ⟨g, j * 7 + 6, none⟩ = some (.string (if x.cl then closedS else noS)) :=
  ⟨RowAt.get h (fun _ => rfl) (i := 0) hx (by omega) rfl, RowAt.get h (fun _ => rfl) (i := 1) hx (by omega) rfl, RowAt.get h (fun _ => rfl) (i := 2) hx (by omega) rfl, RowAt.get h (fun _ => rfl) (i := 3) hx (by omega) rfl, RowAt.get h (fun _ => rfl) (i := 4) hx (by omega) rfl, RowAt.get h (fun _ => rfl) (i := 5) hx (by omega) rfl, RowAt.get h (fun _ => rfl) (i := 6) hx (by omega) rfl⟩

set_option maxRecDepth 100000 in
set_option maxHeartbeats 8000000 in
theorem user_any (w0 w1 : World) (b : Nat) (p : Int) (k : Nat) (q : Option Addr) (n cp : Nat) (B : Nat → Bool) (h : Own w0 w1 b [] (newSt k p)) (hbel : Below w0.heap.size w0 w1) (hB : BoolsIn w0 q n B) (hn : n ≤ 100) (hnc : n ≤ cp) (hcp : cp ≤ 9223372036854775807) :
    Calls Tryd.prog 25 #[.pointer (some ⟨b, 0, none⟩), .slice q n cp] w1 (userPost w0 b p n) := by
  have HI0 : Hid (UserRel w0 b p 0 (.slice none 0 0) (.slice none 0 0) w1) := Lib.hid ⟨[], _, [], [], ⟨h, RowAt.nil _ _ _ _ _, RowAt.nil _ _ _ _ _, by simp [Value.ownBlock], by simp [Value.ownBlock], by simp [Value.ownBlock], hbel⟩, Cn.Fl.new k p⟩
  have HB := Lib.hid hB
  obtain ⟨i0, hi, hz0, hz1, hz2⟩ := info_parts info3
  have HI := Lib.hid hi; have HZ0 := Lib.hid hz0; have HZ1 := Lib.hid hz1; have HZ2 := Lib.hid hz2
  have hpos := h.pos
  clear hi hz0 hz1 hz2 h hbel hB
  go_enter Tryd.func25, Tryd.ntmps25
  go_wp2_with fail
  go_loopw [22, 7, 8] (fun vi vS vR wt => ∃ i : Nat, i ≤ n ∧ vi = .int .i64 i ∧ UserRel w0 b p i vS vR wt) (fun vi _ _ _ => n - (intOf vi).toNat)
  case atStart => exact ⟨0, Nat.zero_le _, rfl, HI0.out⟩
  case round =>
    obtain ⟨i, hin, rfl, ns, c, S, R, hO, hFl⟩ := hrel
    obtain ⟨pS, cS, rfl, -⟩ := hO.rs.form2
    obtain ⟨pR, cR, rfl, -⟩ := hO.rr.form2
    have HO := Lib.hid hO
    have HF := Lib.hid hFl
    have hzw := hO.bel.size
    have hSl := hFl.sl
    have hRl := hFl.lens
    clear hO hFl HI0
    by_cases hlt : i < n
    · obtain ⟨ab, ao, hq, hab, q0⟩ := HB.out.cell hlt HO.out.bel
      subst hq
      have habr : ab < wr.heap.size := by omega
      have ii0 : (0 : Int) ≤ (i : Int) := by omega
      cases hBi : B i with
      | true =>
        rw [hBi] at q0
        have HO0 := Lib.hid (HO.out.below (one wr (.cells #[.int .i64 i] 3)))
        go_wp2_with (at_builtin; refine wpList_append_own_at _ rfl _ _ 66 rfl w0.heap.size 3 i0 (.int .i64 0) 1 8 Tryd.underlying66 HI.out HZ0.out HZ1.out HZ2.out rfl (by decide) _ _ _ rfl HO0.out.rs ⟨wr.heap.size, 0, none⟩ 1 1 [.int .i64 i] rfl rfl (cell_one_new _ _ _) (by simp [Value.oneCell']) ?n3 ?n4 ?n5 ?_)
        case n3 => unfold maxLen; omega
        case n4 => omega
        case n5 => simp; omega
        intro v' w2 hown' hgrow _ hat
        obtain ⟨g', cap', rfl⟩ := ownsRow_succ hown'
        have HO2 := Lib.hid (HO0.out.append (by simp) (iC_flat S i) hown' hgrow (by rw [World.size_alloc]; exact hat))
        clear hown' hgrow hat HO HO0
        go_wp2_with fail
        refine (number_any i _).mono ?_
        rintro e w3 ⟨rfl, hb3⟩
        have HO3 := Lib.hid (HO2.out.below hb3)
        clear hb3 HO2
        have hz3 := HO3.out.bel.size
        have OO := Lib.hid (offer_any b ns c 1 i noS w3 HO3.out.own.rep HO3.out.own.env (valid_int i (by omega)) (by decide) (by omega))
        unfold offerPost at OO
        cases hdn : (Cn.offer c ⟨1, i, noS⟩).2.2.2 with
        | true =>
          obtain ⟨hfl2, hff⟩ := HF.out.send_done hdn
          have HF2 := Lib.hid hfl2
          have KK := Lib.hid (Cn.offer_keeps c ⟨1, i, noS⟩)
          rw [hdn, hff] at OO
          clear hdn hff hfl2
          generalize (Cn.offer c ⟨1, i, noS⟩).2.1 = ds at OO HF2
          generalize (Cn.offer c ⟨1, i, noS⟩).1 = d at OO HF2 KK
          go_wp2_with fail
          refine OO.out.mono ?_
          rintro e w4 ⟨ns4, dv, hs4, rfl, hd4, hR4, hF4⟩
          have hdl := (show RowAt dealCells 7 57 _ _ dv ds from hd4.1)
          obtain ⟨pd, cd, rfl, -⟩ := hdl.form2
          have hO4 := HO3.out.call (fun x hx => .inl (hs4 x hx)) hR4 hF4 (KK.out.wl HO3.out.own.wl) (by have := KK.out.dr; omega)
          have HD : Hid (DealRel w0 b p (i + 1) (S ++ [(i : Int)]) R ds (.slice (some ⟨g', 0, none⟩) (S.length + 1) cap') (.slice pd ds.length cd) ns4 d 0 (.slice pR R.length cR) (w4.alloc (.cells #[.int .i64 0, .string noS] 45))) := Lib.hid
            ⟨by simpa using hO4.below (one w4 (.cells #[.int .i64 0, .string noS] 45)), (hdl.below (one _ _)).weaken (Nat.zero_le _), fun k e e' => by
              have h1 := RowAt.block hdl k e
              have h2 := RowAt.block HO3.out.rr k e'
              omega, HF2.out⟩
          clear hs4 hd4 hR4 hF4 hdl hO4 OO HO3 KK HF
          go_wp2_with fail
          go_loopw [58, 8] (fun vj vR wt => ∃ j : Nat, j ≤ ds.length ∧ vj = .int .i64 j ∧ DealRel w0 b p (i + 1) (S ++ [(i : Int)]) R ds (.slice (some ⟨g', 0, none⟩) (S.length + 1) cap') (.slice pd ds.length cd) ns4 d j vR wt) (fun vj _ _ => ds.length - (intOf vj).toNat)
          case atStart => exact ⟨0, Nat.zero_le _, rfl, HD.out⟩
          case round =>
            obtain ⟨j, hj, rfl, hO5, hdl, hdx, hF5⟩ := hrel
            obtain ⟨pR5, cR5, rfl, -⟩ := hO5.rr.form2
            have hln := hF5.lens
            have hll : (R ++ (ds.take j).map (fun d => d.v.n)).length ≤ 101 := by simp at hln ⊢; omega
            have hds : ds.length ≤ 101 := by simp at hln; omega
            have HO5 := Lib.hid hO5
            have HF5 := Lib.hid hF5
            have HDL := Lib.hid hdl
            have HDX := Lib.hid hdx
            have hz5 := hO5.bel.size
            clear hO5 hF5 hdl hdx HD hln hzw hz3 q0 hab habr
            by_cases hltj : j < ds.length
            · obtain ⟨y, hy⟩ : ∃ y, ds[j]? = some y := ⟨_, List.getElem?_eq_getElem hltj⟩
              obtain ⟨gd, cd', hg, hg1, hg2, -, hg3⟩ := RowAt.pos HDL.out (by omega)
              cases hg
              obtain ⟨d0, d1, d2, d3, d4, d5, d6⟩ := deal_cells HDL.out hy
              have hnx : (R ++ (ds.take j).map (fun d => d.v.n)) ++ [y.v.n] = R ++ (ds.take (j + 1)).map (fun d => d.v.n) := by
                rw [List.take_succ_eq_append_getElem hltj]
                rw [List.getElem?_eq_getElem hltj] at hy
                rw [Option.some.inj hy]
                simp
              have HNX := Lib.hid hnx
              clear hy hnx
              obtain ⟨yw, ⟨yk, yn, ys⟩, yc⟩ := y
              have ij0 : (0 : Int) ≤ (j : Int) := by omega
              have ij1 : (j : Int) < (ds.length : Int) := by omega
              have hb6 : Below wr.heap.size wr ((wr.alloc (.cells #[.int .i64 yw, .int .i64 0, .int .i64 yk, .int .i64 yn, .string ys, .int .i64 (if yc then 1 else 0), .string (if yc then closedS else noS)] 57)).alloc (.cells #[.int .i64 yn] 3)) := (one _ _).alloc (by simp) _
              have HB6 := Lib.hid hb6
              have HO6 := Lib.hid (HO5.out.swap.below hb6)
              have HDL6 := Lib.hid (HDL.out.below hb6)
              clear hb6 HDL HO5
              generalize R ++ (ds.take j).map (fun d => d.v.n) = R5 at *
              cases yc
              all_goals (go_wp2_with (at_builtin; refine wpList_append_own_at _ rfl _ _ 66 rfl w0.heap.size 3 i0 (.int .i64 0) 1 8 Tryd.underlying66 HI.out HZ0.out HZ1.out HZ2.out rfl (by decide) _ _ _ rfl HO6.out.rs ⟨wr.heap.size + 1, 0, none⟩ 1 1 [.int .i64 yn] rfl rfl (cell_one_at _ _ _ _) (by simp [Value.oneCell']) (by unfold maxLen; omega) (by omega) (by simp; omega) ?_))
              all_goals (
                intro v' w6 hown' hgrow _ hat
                obtain ⟨g6, cap6, rfl⟩ := ownsRow_succ hown'
                have hO7 := (HO6.out.append (by simp) (iC_flat _ yn) hown' hgrow (by simpa using hat)).swap
                have HN : Hid (DealRel w0 b p (i + 1) (S ++ [(i : Int)]) R ds (.slice (some ⟨g', 0, none⟩) (S.length + 1) cap') (.slice (some ⟨gd, 0, none⟩) ds.length cd) ns4 d (j + 1) (.slice (some ⟨g6, 0, none⟩) (R5.length + 1) cap6) w6) := Lib.hid
                  ⟨by have e : R5 ++ [yn] = _ := HNX.out
                      rw [← e]; exact hO7, RowAt.fr HDL6.out (fr_grown hgrow) (fun k e hm => by simp at hm; exact HDX.out k e hm), fun k e e' => by
                    have hk := (RowAt.block HDL6.out k e).2
                    rcases hat with h1 | h1
                    · rw [h1] at e'; exact HDX.out k e e'
                    · rw [h1] at e'; simp at e' hk; omega, HF5.out⟩
                clear hown' hgrow hat hO7)
              all_goals (
                go_wp2
                go_roundw
                case rel => exact ⟨j + 1, by omega, by go_num, HN.out⟩
                case measure => simp [intOf]; omega)
            · obtain rfl : j = ds.length := by omega
              have HN : Hid (UserRel w0 b p (i + 1) (.slice (some ⟨g', 0, none⟩) (S.length + 1) cap') (.slice pR5 (R ++ (ds.take ds.length).map (fun d => d.v.n)).length cR5) wr) := Lib.hid ⟨ns4, d, _, _, HO5.out, by simpa using HF5.out⟩
              clear HO5 HF5 HDL HDX
              generalize (R ++ (ds.take ds.length).map (fun d => d.v.n)).length = lR at *
              go_wp2
              go_roundw
              case rel => exact ⟨i + 1, by omega, by go_num, HN.out⟩
              case measure => simp [intOf]; omega
        | false =>
          obtain ⟨hfl2, hpk⟩ := fl_send_park HF.out hdn (by omega)
          have HF2 := Lib.hid hfl2
          have KK := Lib.hid (park_keeps c ((i : Int) + 1) true ⟨1, i, noS⟩)
          rw [hdn, Cn.offer_fl _ hdn, Cn.offer_dl _ hdn, (Cn.offer_same _ hdn).1] at OO
          clear hdn hfl2
          go_wp2_with fail
          refine OO.out.mono ?_
          rintro e w4 ⟨ns4, dv, hs4, rfl, hd4, hR4, hF4⟩
          obtain rfl := hd4.2.2 rfl
          have hO4 := HO3.out.call (fun x hx => .inl (hs4 x hx)) hR4 hF4 HO3.out.own.wl HO3.out.own.dr
          have HO4 := Lib.hid (hO4.below (one w4 (.cells #[.int .i64 0, .string noS] 45)))
          have HX := Lib.hid (Blk.new w4 #[.int .i64 0, .string noS] 45)
          have HL4 := Lib.hid hR4.lt
          clear hs4 hd4 hR4 hF4 hO4 OO HO3
          go_wp2_with fail
          refine (number_any i _).mono ?_
          rintro e w5 ⟨rfl, hb5⟩
          have HO5 := Lib.hid (HO4.out.below hb5)
          have HX5 := Lib.hid (HX.out.below hb5 (by simp))
          have PP := Lib.hid ((callsIn_wide (n := 4)).1 (parktrue_in 4 (by omega) b ns4 c ((i : Int) + 1) 1 i noS w5 HO5.out.own.rep (by omega) (valid_int i (by omega)) (by decide) (by have := HO5.out.own.wl; omega)))
          unfold parkPost at PP
          rw [hpk] at PP
          generalize (park c ((i : Int) + 1) true ⟨1, i, noS⟩).1 = d at PP HF2 KK
          clear hb5 hpk HO4 HX
          go_wp2_with fail
          refine PP.out.mono ?_
          rintro e w6 ⟨ns6, hs6, rfl, hR6, hF6⟩
          have hO6 := HO5.out.call hs6 hR6 hF6 (KK.out.wl HO5.out.own.wl) (by have := KK.out.dr; omega)
          have hX6 := HX5.out.fr hF6 (fun hm => by have := HL4.out _ hm; omega)
          have x0 : w6.cell? ⟨w4.heap.size, 0, none⟩ = some (.int .i64 0) := hX6.cell 0 (by simp)
          have hx6 := hX6.lt
          have HN : Hid (UserRel w0 b p (i + 1) (.slice (some ⟨g', 0, none⟩) (S.length + 1) cap') (.slice pR R.length cR) w6) := Lib.hid ⟨ns6, d, _, _, hO6, HF2.out⟩
          clear hs6 hR6 hF6 hO6 hX6 PP HO5 HX5 KK HF HF2 HL4
          go_wp2_with fail
          go_loopw [58, 8] (fun vj vR wt => vj = .int .i64 0 ∧ vR = .slice pR R.length cR ∧ UserRel w0 b p (i + 1) (.slice (some ⟨g', 0, none⟩) (S.length + 1) cap') vR wt) (fun _ _ _ => 0)
          case atStart => exact ⟨rfl, rfl, HN.out⟩
          case round =>
            obtain ⟨rfl, rfl, hU⟩ := hrel
            have HN := Lib.hid hU
            clear hU x0 hx6
            go_wp2
            go_roundw
            case rel => exact ⟨i + 1, by omega, by go_num, HN.out⟩
            case measure => simp [intOf]; omega
      | false =>
        rw [hBi] at q0
        have TT := Lib.hid (take_any b ns c wr HO.out.own.rep HO.out.own.env HO.out.own.positive)
        unfold takeFPost at TT
        cases hdn : (Cn.take c).2.2.2.2 with
        | true =>
          obtain ⟨hfl2, hff⟩ := HF.out.take_done hdn
          have HF2 := Lib.hid hfl2
          have KK := Lib.hid (Cn.take_keeps c)
          rw [hdn, hff] at TT
          clear hdn hff hfl2
          generalize (Cn.take c).2.2.1 = ds at TT
          generalize (Cn.take c).2.1 = rv at TT HF2
          generalize (Cn.take c).1 = d at TT HF2 KK
          obtain ⟨rk, rn, rs⟩ := rv
          go_wp2_with fail
          refine TT.out.mono ?_
          rintro e w4 ⟨ns4, dv, hs4, rfl, hd4, hR4, hF4⟩
          obtain ⟨pd, cd, rfl, -⟩ := (show RowAt dealCells 7 57 _ _ dv ds from hd4.1).form2
          have hO4 := HO.out.call (fun x hx => .inl (hs4 x hx)) hR4 hF4 (KK.out.wl HO.out.own.wl) (by have := KK.out.dr; omega)
          have hz4 := hO4.bel.size
          have HO5 := Lib.hid (hO4.swap.below (((one w4 (.cells #[.int .i64 rk, .int .i64 rn, .string rs] 37)).alloc (by simp) (.cells #[.int .i64 0, .string noS] 45)).alloc (by simp; omega) (.cells #[.int .i64 rn] 3)))
          clear hs4 hd4 hR4 hF4 hO4 TT KK HO HF
          go_wp2_with (at_builtin; refine wpList_append_own_at _ rfl _ _ 66 rfl w0.heap.size 3 i0 (.int .i64 0) 1 8 Tryd.underlying66 HI.out HZ0.out HZ1.out HZ2.out rfl (by decide) _ _ _ rfl HO5.out.rs ⟨w4.heap.size + 1 + 1, 0, none⟩ 1 1 [.int .i64 rn] rfl rfl (cell_one_at2 _ _ _ _ _) (by simp [Value.oneCell']) (by unfold maxLen; omega) (by omega) (by simp; omega) ?_)
          intro v' w6 hown' hgrow _ hat
          obtain ⟨g6, cap6, rfl⟩ := ownsRow_succ hown'
          have hO7 := (HO5.out.append (by simp) (iC_flat _ rn) hown' hgrow (by simpa using hat)).swap
          have HN : Hid (UserRel w0 b p (i + 1) (.slice pS S.length cS) (.slice (some ⟨g6, 0, none⟩) (R.length + 1) cap6) w6) := Lib.hid ⟨ns4, d, _, _, hO7, HF2.out⟩
          clear hown' hgrow hat hO7 HO5
          go_wp2
          go_roundw
          case rel => exact ⟨i + 1, by omega, by go_num, HN.out⟩
          case measure => simp [intOf]; omega
        | false =>
          obtain ⟨hfl2, hpk⟩ := fl_take_park HF.out ⟨0, 0, noS⟩ hdn (by omega)
          have HF2 := Lib.hid hfl2
          have KK := Lib.hid (park_keeps c ((i : Int) + 1) false ⟨0, 0, noS⟩)
          rw [hdn, Cn.take_fl hdn, (Cn.take_dl hdn).1, (Cn.take_dl hdn).2, (Cn.take_same hdn).1] at TT
          simp only [Cn.zero] at TT
          clear hdn hfl2
          go_wp2_with fail
          refine TT.out.mono ?_
          rintro e w4 ⟨ns4, dv, hs4, rfl, hd4, hR4, hF4⟩
          obtain rfl := hd4.2.2 rfl
          have hO4 := HO.out.call (fun x hx => .inl (hs4 x hx)) hR4 hF4 HO.out.own.wl HO.out.own.dr
          have HO5 := Lib.hid (hO4.below ((one w4 (.cells #[.int .i64 0, .int .i64 0, .string noS] 37)).alloc (by simp) (.cells #[.int .i64 0, .string noS] 45)))
          have PP := Lib.hid ((callsIn_wide (n := 4)).1 (parkfalse_in 4 (by omega) b ns4 c ((i : Int) + 1) 0 0 noS _ HO5.out.own.rep (by omega) (by have := HO5.out.own.wl; omega)))
          unfold parkPost at PP
          rw [hpk] at PP
          generalize (park c ((i : Int) + 1) false ⟨0, 0, noS⟩).1 = d at PP HF2 KK
          clear hs4 hd4 hR4 hF4 hO4 TT hpk
          go_wp2_with fail
          refine PP.out.mono ?_
          rintro e w6 ⟨ns6, hs6, rfl, hR6, hF6⟩
          have hO6 := HO5.out.call hs6 hR6 hF6 (KK.out.wl HO5.out.own.wl) (by have := KK.out.dr; omega)
          have HN : Hid (UserRel w0 b p (i + 1) (.slice pS S.length cS) (.slice pR R.length cR) w6) := Lib.hid ⟨ns6, d, _, _, hO6, HF2.out⟩
          clear hs6 hR6 hF6 hO6 PP HO5 KK HF HF2 HO
          go_wp2_with fail
          go_roundw
          case rel => exact ⟨i + 1, by omega, by go_num, HN.out⟩
          case measure => simp [intOf]; omega
    · obtain rfl : i = n := by omega
      go_wp2
      refine bodyPost_ret (v := .tuple #[.slice pS S.length cS, .slice pR R.length cR, .bool true]) (by simp [results, Tryd.results25, go_sem]) rfl ?_
      exact ⟨_, _, rfl, ns, c, S, R, HO.out, HF.out⟩
end Go.Proofs.YtlibkhndekgnfaaDoor
