/- TreeNobody returns true. -/
import Derived.Test.YtjpdjcmakmmckaaNil
import Derived.Test.YtjpdjcmakmmckaaAwake
import Derived.Test.YtjpdjcmakmmckaaOps
namespace Go.Proofs.Ytjpdjcmakmmckaa
open Go.RowKit
set_option maxRecDepth 100000 in
theorem sameLinks_nil (w : World) : Calls Try.prog 41 #[.slice none 0 0, .slice none 0 0] w (same w (.bool true)) := by
  unfold same
  go_enter Try.func41, Try.ntmps41
  go_wp2
  go_loop [14] (fun i => i = .int .i64 0) (fun _ => 0)
  case atStart => rfl
  case round =>
    subst hrel
    go_wp2
    go_ret
    exact ⟨rfl, rfl⟩
set_option maxRecDepth 100000 in
theorem sameTask_zero (w : World) : Calls Try.prog 28 #[zTask, zTask] w (still w (.bool true)) := by
  unfold still zTask
  have A := Lib.hid sameLinks_nil
  unfold same at A
  go_enter Try.func28, Try.ntmps28
  go_wp2_with fail
  refine (A.out _).mono ?_
  rintro e w2 ⟨rfl, rfl⟩
  go_wp2
  go_ret
  exact ⟨rfl, (one _ _).alloc (by simp) _⟩
set_option maxRecDepth 100000 in
theorem sameScope_zero (w : World) : Calls Try.prog 29 #[zScope, zScope] w (still w (.bool true)) := by
  unfold still zScope
  go_enter Try.func29, Try.ntmps29
  go_wp2
  go_loop [45] (fun i => i = .int .i64 0) (fun _ => 0)
  case atStart => rfl
  case round =>
    subst hrel
    go_wp2
    go_ret
    exact ⟨rfl, (one _ _).alloc (by simp) _⟩

set_option maxRecDepth 100000 in
set_option maxHeartbeats 8000000 in
theorem law_nobody (o : Op) (w : World) : Calls Try.prog 4 #[opV o] w (still w (.bool true)) := by
  obtain ⟨kd, n, yes, f⟩ := o
  have N1 := Lib.hid (open_nil n yes)
  have N2 := Lib.hid (spawn_nil n)
  have N3 := Lib.hid (end_nil n f)
  have N4 := Lib.hid (leave_nil n f)
  have N5 := Lib.hid (fail_nil n f)
  have N6 := Lib.hid root_nil
  have N7 := Lib.hid (tstate_nil n)
  have N8 := Lib.hid (sstate_nil n)
  have N9 := Lib.hid (chain_nil n)
  have N10 := Lib.hid (below_nil n)
  have N11 := Lib.hid (shield_nil n)
  have N12 := Lib.hid (unveil_nil n)
  have N13 := Lib.hid sameTask_zero
  have N14 := Lib.hid sameScope_zero
  have N15 := Lib.hid copy_nil
  have N16 := Lib.hid awake_any
  unfold same at N1 N6 N9 N10 N11 N12 N15
  unfold still at N2 N3 N4 N5 N7 N8 N13 N14 N16 ⊢
  unfold zTask at N7 N13
  unfold zScope at N8 N14
  unfold opV
  have CB := Lib.hid (Blk.new w #[.int .i64 kd, .int .i64 n, .bool yes, .int .i64 f.k, .string f.s] 39)
  have HB1 := Lib.hid (one w (.cells #[.int .i64 kd, .int .i64 n, .bool yes, .int .i64 f.k, .string f.s] 39))
  go_enter Try.func4, Try.ntmps4
  go_wp2_with fail
  refine (N1.out _).mono ?_
  rintro e w1 ⟨rfl, rfl⟩
  obtain ⟨w1, hw1⟩ : ∃ w1, w1 = w.alloc (.cells #[.int .i64 kd, .int .i64 n, .bool yes, .int .i64 f.k, .string f.s] 39) := ⟨_, rfl⟩
  rw [← hw1] at CB HB1
  rw [← hw1]
  clear hw1
  have q1 := CB.out.cell 1 _ rfl
  have q3 := CB.out.cell 3 _ rfl
  have q4 := CB.out.cell 4 _ rfl
  have ql := CB.out.lt
  clear N1
  go_wp2_with fail
  refine (N2.out _).mono ?_
  rintro e w2 ⟨rfl, hb⟩
  have CB2 := Lib.hid (CB.out.below hb CB.out.lt)
  have HB2 := Lib.hid (HB1.out.trans (hb.mono HB1.out.size))
  clear hb q1 q3 q4 ql N2 CB HB1
  have q1 := CB2.out.cell 1 _ rfl
  have q3 := CB2.out.cell 3 _ rfl
  have q4 := CB2.out.cell 4 _ rfl
  have ql := CB2.out.lt
  go_wp2_with fail
  refine (N3.out _).mono ?_
  rintro e w3 ⟨rfl, hb⟩
  have CB3 := Lib.hid (CB2.out.below hb CB2.out.lt)
  have HB3 := Lib.hid (HB2.out.trans (hb.mono HB2.out.size))
  clear hb q1 q3 q4 ql N3 CB2 HB2
  have q1 := CB3.out.cell 1 _ rfl
  have q3 := CB3.out.cell 3 _ rfl
  have q4 := CB3.out.cell 4 _ rfl
  have ql := CB3.out.lt
  go_wp2_with fail
  refine (N4.out _).mono ?_
  rintro e w4 ⟨rfl, hb⟩
  have CB4 := Lib.hid (CB3.out.below hb CB3.out.lt)
  have HB4 := Lib.hid (HB3.out.trans (hb.mono HB3.out.size))
  clear hb q1 q3 q4 ql N4 CB3 HB3
  have q1 := CB4.out.cell 1 _ rfl
  have q3 := CB4.out.cell 3 _ rfl
  have q4 := CB4.out.cell 4 _ rfl
  have ql := CB4.out.lt
  go_wp2_with fail
  refine (N5.out _).mono ?_
  rintro e w5 ⟨rfl, hb⟩
  have CB5 := Lib.hid (CB4.out.below hb CB4.out.lt)
  have HB5 := Lib.hid (HB4.out.trans (hb.mono HB4.out.size))
  clear hb q1 q3 q4 ql N5 CB4 HB4
  have q1 := CB5.out.cell 1 _ rfl
  have ql := CB5.out.lt
  go_wp2_with fail
  refine (N6.out _).mono ?_
  rintro e w6 ⟨rfl, rfl⟩
  go_wp2_with fail
  refine (N7.out _).mono ?_
  rintro e w7 ⟨rfl, hb⟩
  have CB7 := Lib.hid ((CB5.out.below hb CB5.out.lt).alloc (.cells #[.int .i64 0, .bool false, .bool false, .int .i64 0, .string ⟨#[]⟩, .slice none 0 0] 52))
  have HB7 := Lib.hid ((HB5.out.trans (hb.mono HB5.out.size)).alloc (by have := HB5.out.size; have := hb.size; omega) (.cells #[.int .i64 0, .bool false, .bool false, .int .i64 0, .string ⟨#[]⟩, .slice none 0 0] 52))
  have D7 := Lib.hid (Blk.new w7 #[.int .i64 0, .bool false, .bool false, .int .i64 0, .string ⟨#[]⟩, .slice none 0 0] 52)
  clear hb q1 ql CB5 HB5 N6 N7
  have q1 := CB7.out.cell 1 _ rfl
  have ql := CB7.out.lt
  go_wp2_with fail
  refine (N8.out _).mono ?_
  rintro e w8 ⟨rfl, hb⟩
  have CB8 := Lib.hid ((CB7.out.below hb CB7.out.lt).alloc (.cells #[.int .i64 0, .bool false, .bool false, .slice none 0 0, .int .i64 0, .string ⟨#[]⟩] 57))
  have D7' := Lib.hid ((D7.out.below hb D7.out.lt).alloc (.cells #[.int .i64 0, .bool false, .bool false, .slice none 0 0, .int .i64 0, .string ⟨#[]⟩] 57))
  have HB8 := Lib.hid ((HB7.out.trans (hb.mono HB7.out.size)).alloc (by have := HB7.out.size; have := hb.size; omega) (.cells #[.int .i64 0, .bool false, .bool false, .slice none 0 0, .int .i64 0, .string ⟨#[]⟩] 57))
  have D8 := Lib.hid (Blk.new w8 #[.int .i64 0, .bool false, .bool false, .slice none 0 0, .int .i64 0, .string ⟨#[]⟩] 57)
  clear hb q1 ql CB7 HB7 N8 D7
  have q1 := CB8.out.cell 1 _ rfl
  have ql := CB8.out.lt
  go_wp2_with fail
  refine (N9.out _).mono ?_
  rintro e w9 ⟨rfl, rfl⟩
  obtain ⟨w9, hw9⟩ : ∃ w9, w9 = w8.alloc (.cells #[.int .i64 0, .bool false, .bool false, .slice none 0 0, .int .i64 0, .string ⟨#[]⟩] 57) := ⟨_, rfl⟩
  rw [← hw9] at CB8 HB8 D7' D8 q1 ql
  rw [← hw9]
  clear hw9
  go_wp2_with fail
  refine (N10.out _).mono ?_
  rintro e w10 ⟨rfl, rfl⟩
  clear N9 N10
  go_wp2_with fail
  go_region_with (first
    | (go_at_call 26; refine (N11.out _).mono ?_; rintro e wq ⟨rfl, rfl⟩)
    | (go_at_call 27; refine (N12.out _).mono ?_; rintro e wq ⟨rfl, rfl⟩))
  all_goals
    have BL := Lib.hid (Blk.new w9 #[.int .i64 2, .int .i64 2, .int .i64 2, .int .i64 2, .int .i64 2, .int .i64 2, .int .i64 2, .int .i64 2, .int .i64 2, .int .i64 2, .int .i64 2, .int .i64 2] 24).drew
    have D7b := Lib.hid (D7'.out.alloc (.cells #[.int .i64 2, .int .i64 2, .int .i64 2, .int .i64 2, .int .i64 2, .int .i64 2, .int .i64 2, .int .i64 2, .int .i64 2, .int .i64 2, .int .i64 2, .int .i64 2] 24)).drew
    have D8b := Lib.hid (D8.out.alloc (.cells #[.int .i64 2, .int .i64 2, .int .i64 2, .int .i64 2, .int .i64 2, .int .i64 2, .int .i64 2, .int .i64 2, .int .i64 2, .int .i64 2, .int .i64 2, .int .i64 2] 24)).drew
    have HB9 := Lib.hid (below_drewN (HB8.out.alloc HB8.out.size (.cells #[.int .i64 2, .int .i64 2, .int .i64 2, .int .i64 2, .int .i64 2, .int .i64 2, .int .i64 2, .int .i64 2, .int .i64 2, .int .i64 2, .int .i64 2, .int .i64 2] 24)) 1)
    have HB9 : Hid (Below w.heap.size w (w9.alloc (.cells #[.int .i64 2, .int .i64 2, .int .i64 2, .int .i64 2, .int .i64 2, .int .i64 2, .int .i64 2, .int .i64 2, .int .i64 2, .int .i64 2, .int .i64 2, .int .i64 2] 24)).drew) := HB9
    clear q1 ql CB8 HB8 D7' D8 N11 N12
    generalize (w9.alloc (.cells #[.int .i64 2, .int .i64 2, .int .i64 2, .int .i64 2, .int .i64 2, .int .i64 2, .int .i64 2, .int .i64 2, .int .i64 2, .int .i64 2, .int .i64 2, .int .i64 2] 24)).drew = w10 at *
    obtain ⟨g, hg⟩ : ∃ g, g = w9.heap.size := ⟨_, rfl⟩
    rw [← hg] at BL
    rw [← hg]
    clear hg
    have CL : Hid (∀ k, k < 12 → w10.cell? ⟨g, k, none⟩ = some (.int .i64 2)) := Lib.hid fun k hk => BL.out.cell k _ (by
      show (List.replicate 12 (Value.int .i64 2))[k]? = _
      rw [List.getElem?_replicate, if_pos hk])
    go_wp2_with fail
    go_loop [122] (fun i => ∃ k : Nat, k ≤ 12 ∧ i = .int .i64 k) (fun i => 12 - (intOf i).toNat)
    case atStart => exact ⟨0, by omega, rfl⟩
    case round =>
      obtain ⟨k, hk, rfl⟩ := hrel
      by_cases hlt : k < 12
      · have hck := CL.out k hlt
        go_wp2
        go_round
        case rel => exact ⟨k + 1, by omega, by go_num⟩
        case measure => simp [intOf]; omega
      · obtain rfl : k = 12 := by omega
        have d0 := D7b.out.cell 0 _ rfl
        have d1 := D7b.out.cell 1 _ rfl
        have d2 := D7b.out.cell 2 _ rfl
        have d3 := D7b.out.cell 3 _ rfl
        have d4 := D7b.out.cell 4 _ rfl
        have d5 := D7b.out.cell 5 _ rfl
        have dl := D7b.out.lt
        go_wp2_with fail
        refine (N13.out _).mono ?_
        rintro e w11 ⟨rfl, hb⟩
        have D8c := Lib.hid (D8b.out.below hb D8b.out.lt)
        have HB11 := Lib.hid (HB9.out.trans (hb.mono HB9.out.size))
        clear hb d0 d1 d2 d3 d4 d5 dl
        have d0 := D8c.out.cell 0 _ rfl
        have d1 := D8c.out.cell 1 _ rfl
        have d2 := D8c.out.cell 2 _ rfl
        have d3 := D8c.out.cell 3 _ rfl
        have d4 := D8c.out.cell 4 _ rfl
        have d5 := D8c.out.cell 5 _ rfl
        have dl := D8c.out.lt
        go_wp2_with fail
        refine (N14.out _).mono ?_
        rintro e w12 ⟨rfl, hb⟩
        have HB12 := Lib.hid (HB11.out.trans (hb.mono HB11.out.size))
        clear hb
        go_wp2_with fail
        refine (N15.out _).mono ?_
        rintro e w13 ⟨rfl, rfl⟩
        go_wp2_with fail
        refine (N16.out _).mono ?_
        rintro e w14 ⟨rfl, hb⟩
        have HB14 := Lib.hid (HB12.out.trans (hb.mono HB12.out.size))
        clear hb
        go_wp2
        go_ret
        exact ⟨rfl, HB14.out⟩
end Go.Proofs.Ytjpdjcmakmmckaa
