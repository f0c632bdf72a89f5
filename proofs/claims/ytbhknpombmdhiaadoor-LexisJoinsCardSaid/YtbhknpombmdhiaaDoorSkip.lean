/- What the scanner's method skip does: it moves the scanner's position behind blanks and comments. -/
import Derived.Test.YtbhknpombmdhiaaDoorToken
import Derived.Deep.RegionWith
import Derived.IntWalk
namespace Go.Proofs.YtbhknpombmdhiaaDoor
open Go.RowKit

/-- Of what was there, block S alone has turned. -/
structure Only (S : Nat) (W W' : World) : Prop where
  os : W'.os = W.os
  tape : W'.tape = W.tape
  output : W'.output = W.output
  size : W.heap.size ≤ W'.heap.size
  block : ∀ k, k < W.heap.size → k ≠ S → W'.heap[k]? = W.heap[k]?

theorem Only.refl (S : Nat) (W : World) : Only S W W := ⟨rfl, rfl, rfl, Nat.le_refl _, fun _ _ _ => rfl⟩
theorem Only.trans {S : Nat} {A B C : World} (h : Only S A B) (k : Only S B C) : Only S A C :=
  ⟨k.os.trans h.os, k.tape.trans h.tape, k.output.trans h.output, Nat.le_trans h.size k.size, fun i hi hn => (k.block i (Nat.lt_of_lt_of_le hi h.size) hn).trans (h.block i hi hn)⟩
theorem Only.drewN {S : Nat} {A B : World} (h : Only S A B) (n : Nat) : Only S A (B.drewN n) := ⟨h.os, h.tape, h.output, h.size, h.block⟩
theorem Only.drew {S : Nat} {A B : World} (h : Only S A B) : Only S A B.drew := ⟨h.os, h.tape, h.output, h.size, h.block⟩
theorem Only.of_below {S : Nat} {A B : World} (h : Below A.heap.size A B) : Only S A B := ⟨h.os, h.tape, h.output, h.size, fun k hk _ => h.block k hk⟩
theorem Only.grown {S : Nat} {A B : World} (h : A.grownBy B (some S)) : Only S A B := ⟨h.os, h.tape, h.output, h.size, fun k hk hn => h.block k hk (fun e => hn (by cases e; rfl))⟩
theorem Only.set {S o : Nat} {A B : World} (h : Only S A B) (v : Value) : Only S A (B.setCell ⟨S, o, none⟩ v) := h.trans (Only.grown (grownBy_set B S o v))
theorem Only.below {S n : Nat} {A B : World} (h : Only S A B) (hn : n ≤ S) (hs : n ≤ A.heap.size) : Below n A B :=
  ⟨h.os, h.tape, h.output, h.size, fun k hk => h.block k (by omega) (by omega)⟩
theorem Env.only {S : Nat} {A B : World} (h : Env A) (ho : Only S A B) (hS : 8 ≤ S) : Env B := h.below (Nat.le_refl 8) (ho.below hS h.2.2)

/-- The position of the scanner in block S, read off the memory. -/
def atOf (S : Nat) (W : World) : Nat := match W.cell? ⟨S, 1, none⟩ with
  | some (.int _ n) => n.toNat
  | _ => 0
theorem atOf_eq {W : World} {S Bm a : Nat} {src : ByteArray} {st : Bool} (h : Sc W S Bm src a st) : atOf S W = a := by simp [atOf, h.c1]

theorem Sc.drewN {W : World} {S Bm a : Nat} {src : ByteArray} {st : Bool} (h : Sc W S Bm src a st) (n : Nat) : Sc (W.drewN n) S Bm src a st := ⟨h.blk, h.rdr, h.signs, h.lt⟩
theorem Sc.drew {W : World} {S Bm a : Nat} {src : ByteArray} {st : Bool} (h : Sc W S Bm src a st) : Sc W.drew S Bm src a st := ⟨h.blk, h.rdr, h.signs, h.lt⟩

theorem Sc.setI {W : World} {S Bm a : Nat} {src : ByteArray} {st : Bool} (h : Sc W S Bm src a st) {x : Int} {a' : Nat} (hx : x = (a' : Int)) : Sc (W.setCell ⟨S, 1, none⟩ (.int .i64 x)) S Bm src a' st := by rw [hx]; exact h.set a'

namespace Lx
theorem skip_blank {s : List UInt8} {a : Nat} (h : a < s.length) (hb : isBlank s[a] = true) : skipAt s a = skipAt s (a + 1) := by
  unfold skipAt
  rw [drop_at s a h]
  simp only [skipB, hb, if_true]; omega
theorem skip_hash {s : List UInt8} {a : Nat} (h : a < s.length) (hc : s[a].toNat = 35) : skipAt s a = skipAt s (a + run notLF (s.drop a)) := by
  unfold skipAt
  have hb : isBlank s[a] = false := by simp [isBlank, hc]
  have hl : notLF s[a] = true := by simp [notLF, hc]
  rw [drop_at s a h]
  have e : run notLF (s[a] :: s.drop (a + 1)) = run notLF (s.drop (a + 1)) + 1 := by simp [run, hl]
  have e2 : s.drop (a + (run notLF (s.drop (a + 1)) + 1)) = (s.drop (a + 1)).drop (run notLF (s.drop (a + 1))) := by rw [List.drop_drop]; congr 1; omega
  rw [e, e2]
  simp only [skipB, hb, hc, Bool.false_eq_true, if_false, beq_self_eq_true, if_true, skip_comment]; omega
theorem skip_none {s : List UInt8} {a : Nat} (h : a < s.length) (hb : isBlank s[a] = false) (hc : ¬ s[a].toNat = 35) : skipAt s a = a := by
  unfold skipAt
  rw [drop_at s a h]
  simp [skipB, hb, hc]
theorem skip_end {s : List UInt8} {a : Nat} (h : s.length ≤ a) : skipAt s a = a := by
  unfold skipAt
  rw [List.drop_of_length_le h]; simp [skipB]
end Lx

set_option maxRecDepth 100000 in
set_option maxHeartbeats 3000000 in
theorem skip_any (S Bm : Nat) (src : ByteArray) (a : Nat) (st : Bool) (w : World) (hs : src.size < 4294967281) (ha : a ≤ src.size) (h : Sc w S Bm src a st) :
    Calls Tryd.prog 62 #[.pointer (some ⟨S, 0, none⟩)] w fun e w' => e = .returned (.tuple #[]) ∧ Sc w' S Bm src (Lx.skipAt src.data.toList a) st ∧ Lx.skipAt src.data.toList a ≤ src.size ∧ Only S w w' := by
  have hmf : ∀ (fn : Fn) (first cap : Array Value) (w : World), (Instr.makeFunc fn first cap).run Tryd.prog w = .ok (.func fn first cap) w := fun _ _ _ _ => rfl
  have HG : Hid (∀ k (h : k < src.size), src.data.toList[k]'(by rw [list_len]; exact h) = src[k]) := Lib.hid fun k h => rfl
  have HL : Hid (src.data.toList.length = src.size) := Lib.hid (list_len src)
  have H := Lib.hid h
  clear h
  go_enter Tryd.func62, Tryd.ntmps62
  go_wp2_with fail
  go_loopw [2] (fun _ wr => ∃ k : Nat, k ≤ src.size ∧ Sc wr S Bm src k st ∧ Only S w wr ∧ Hid (Lx.skipAt src.data.toList a = Lx.skipAt src.data.toList k)) (fun _ wr => src.size - atOf S wr)
  case atStart => exact ⟨a, ha, H.out, Only.refl _ _, Lib.hid rfl⟩
  case round =>
    obtain ⟨k, hk, hsc, hO, hQ⟩ := hrel
    have c0 := hsc.c0
    have c1 := hsc.c1
    have fz := hsc.fz 1
    have hS := hsc.size
    have HS := Lib.hid hsc
    have HO := Lib.hid hO
    clear hsc hO
    by_cases hlt : k < src.size
    · have hkl : k < src.data.toList.length := by rw [HL.out]; exact hlt
      have hr0 : 0 < (src.extract k src.size).size := by rw [rest_size]; omega
      have e0 : (src.extract k src.size)[0] = src[k] := by
        have h1 := list_of_size hr0
        rw [rest_list, Lx.drop_at _ _ hkl] at h1
        exact ((List.cons.inj h1).1.symm.trans (HG.out k hlt))
      have eG := HG.out k hlt
      have K := fun w => isBlank_any (src.extract k src.size)[0] w
      cases hb : Lx.isBlank (src.extract k src.size)[0]
      · rw [hb] at K
        have KK := Lib.hid K
        by_cases hc : (src.extract k src.size)[0].toNat = 35
        · have b1 : (((src.extract k src.size)[0].toNat : Int) == 35) = true := ibeq_t (by omega)
          have R := fun w => run_notLF (src.extract k src.size) w (by rw [rest_size]; omega)
          rw [rest_list] at R
          have hle := Lx.run_le Lx.notLF (src.data.toList.drop k)
          rw [List.length_drop, HL.out] at hle
          have hsk : Lx.skipAt src.data.toList a = Lx.skipAt src.data.toList (k + Lx.run Lx.notLF (src.data.toList.drop k)) := hQ.out.trans (Lx.skip_hash hkl (by rw [eG, ← e0]; exact hc))
          have hrn : 0 < Lx.run Lx.notLF (src.data.toList.drop k) := by
            rw [Lx.drop_at _ _ hkl]
            exact Lx.run_pos (by rw [eG, ← e0]; simp [Lx.notLF, hc])
          generalize Lx.run Lx.notLF (src.data.toList.drop k) = rn at *
          have RR := Lib.hid R
          have HQ' := Lib.hid hsk
          clear K R hb hc e0 eG hkl hsk hQ
          go_wp2_with fail
          go_quiet (fail)
          go_wp2_with fail
          go_quiet (fail)
          go_wp2_with (go_at_call 75; refine (KK.out _).mono ?_; rintro e w' ⟨rfl, rfl⟩)
          have sw : IntKind.i64.wrap ((k : Int) + (rn : Int)) = (k : Int) + rn := IntWalk.i64_in _ (by omega)
          go_region_with (go_at_call 48; refine (RR.out _).mono ?_; rintro e w' ⟨rfl, rfl⟩)
          all_goals clear sw
          all_goals go_wp2
          all_goals go_roundw
          all_goals first | exact ⟨k + rn, by omega, (HS.out.drewN _).setI (by omega), (HO.out.drewN _).set _, HQ'⟩ | (rw [atOf_eq ((HS.out.drewN _).setI (a' := k + rn) (by omega)), atOf_eq HS.out]; omega)
        · have b1 : (((src.extract k src.size)[0].toNat : Int) == 35) = false := ibeq_f (by omega)
          have hsk : Lx.skipAt src.data.toList k = k := Lx.skip_none hkl (by rw [eG, ← e0]; exact hb) (by rw [eG, ← e0]; exact hc)
          have HQ' := Lib.hid (hQ.out.trans hsk)
          clear K hb hc e0 eG hkl hsk hQ
          go_wp2_with fail
          go_quiet (fail)
          go_wp2_with fail
          go_quiet (fail)
          go_wp2_with (go_at_call 75; refine (KK.out _).mono ?_; rintro e w' ⟨rfl, rfl⟩)
          refine bodyPost_ret (results_none rfl _ _ _) rfl ⟨rfl, ?_, ?_, HO.out.drewN _⟩
          · rw [HQ'.out]; exact HS.out.drewN _
          · rw [HQ'.out]; exact hk
      · rw [hb] at K
        have KK := Lib.hid K
        have HQ' := Lib.hid (hQ.out.trans (Lx.skip_blank hkl (by rw [eG, ← e0]; exact hb)))
        clear K hb e0 eG hkl hQ
        go_wp2_with fail
        go_quiet (fail)
        go_wp2_with fail
        go_quiet (fail)
        go_wp2_with (go_at_call 75; refine (KK.out _).mono ?_; rintro e w' ⟨rfl, rfl⟩)
        go_roundw
        case rel => exact ⟨k + 1, by omega, (HS.out.drewN _).setI (by omega), (HO.out.drewN _).set _, HQ'⟩
        case measure =>
          rw [atOf_eq ((HS.out.drewN _).setI (a' := k + 1) (by omega)), atOf_eq HS.out]; omega
    · go_wp2_with fail
      go_quiet (fail)
      go_wp2
      have hk' : k = src.size := by omega
      go_end0
      refine ⟨rfl, ?_, ?_, HO.out.drewN _⟩
      · rw [hQ.out, Lx.skip_end (by rw [HL.out]; omega)]; exact HS.out.drewN _
      · rw [hQ.out, Lx.skip_end (by rw [HL.out]; omega)]; exact hk

end Go.Proofs.YtbhknpombmdhiaaDoor
