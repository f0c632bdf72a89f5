/- What the function textOf returns: what stands in a source for a token, and whether it can be one before the end. -/
import Derived.Test.YtbhknpombmdhiaaDoorBuild2
import Derived.Test.YtbhknpombmdhiaaDoorStandPlain
import Derived.Test.YtbhknpombmdhiaaDoorRefTok
namespace Go.Proofs.YtbhknpombmdhiaaDoor
open Go.RowKit

/-- What textOf comes to. -/
def TextPost (k : Int) (t : ByteArray) (w : World) (e : Ending) (w' : World) : Prop :=
  ∃ (x : ByteArray) (ok : Bool), e = .returned (.tuple #[.string x, .bool ok]) ∧ ok = (Lx.isTok k t.data.toList && !decide (k = 6)) ∧ (ok = true → x.data.toList = Lx.txt k t.data.toList) ∧ Below w.heap.size w w'

theorem TextPost.plain {k : Int} {t : ByteArray} {w w' : World} {ok : Bool} (h6 : k ≠ 6) (h3 : k ≠ 3) (h : Lx.isTok k t.data.toList = ok) (hb : Below w.heap.size w w') : TextPost k t w (.returned (.tuple #[.string t, .bool ok])) w' :=
  ⟨t, ok, rfl, by rw [h, decide_eq_false h6]; simp, fun _ => by simp [Lx.txt, h3], hb⟩

set_option maxRecDepth 100000 in
set_option maxHeartbeats 2000000 in
theorem textOf_any (k : Int) (t : ByteArray) (p : Int) (Bm : Nat) (w : World) (ht : t.size < 4294967281) (henv : Env w) (hs : Signs w Bm 21 Lx.signList) :
    Calls Tryd.prog 40 #[.agg #[.int .i64 k, .string t, .int .i64 p], .map (some Bm)] w (TextPost k t w) := by
  have hbx : ∀ o, Below w.heap.size w (w.alloc o) := fun o => (Below.refl _ _).alloc (Nat.le_refl _) _
  have hBm := hs.lt
  by_cases h1 : k = 1
  · subst h1
    obtain ⟨⟨m, hm⟩, _, h8⟩ := henv
    have M : Hid (∀ o n, ((w.alloc o).drewN n).cell? ⟨2, 0, none⟩ = some (.int .i64 m)) := Lib.hid fun o n => (show (w.alloc o).cell? ⟨2, 0, none⟩ = _ by rw [World.cell?_alloc_past _ _ _ (by show 2 < w.heap.size; omega)]; exact hm)
    clear hm
    go_enter Tryd.func40, Tryd.ntmps40
    go_wp2_with fail
    go_quiet ((go_at_call 25; exact quiet_left (isName_any t _ m ht (M.out _ _))))
    go_wp2_with fail
    go_ret2
    exact TextPost.plain (by decide) (by decide) rfl (below_drewN (hbx _) _)
  by_cases h5 : k = 5
  · subst h5
    obtain ⟨⟨m, hm⟩, _, h8⟩ := henv
    have M : Hid (∀ o n, ((w.alloc o).drewN n).cell? ⟨2, 0, none⟩ = some (.int .i64 m)) := Lib.hid fun o n => (show (w.alloc o).cell? ⟨2, 0, none⟩ = _ by rw [World.cell?_alloc_past _ _ _ (by show 2 < w.heap.size; omega)]; exact hm)
    clear hm h1
    go_enter Tryd.func40, Tryd.ntmps40
    go_wp2_with fail
    go_quiet ((go_at_call 24; exact quiet_left (isWord_any t _ m ht (M.out _ _))))
    go_wp2_with fail
    go_ret2
    exact TextPost.plain (by decide) (by decide) rfl (below_drewN (hbx _) _)
  by_cases h4 : k = 4
  · subst h4
    have L0 : ∀ n, (Instr.lookup 54 (.map (some Bm)) (.string t) false).run Tryd.prog ((w.alloc (.cells #[.int .i64 4, .string t, .int .i64 p] 47)).drewN n) = .ok (.bool (Lx.isSign t.data.toList)) ((w.alloc (.cells #[.int .i64 4, .string t, .int .i64 p] 47)).drewN n) :=
      fun n => Signs.look (w := (w.alloc (.cells #[.int .i64 4, .string t, .int .i64 p] 47)).drewN n) (hs.below (below_drewN (hbx _) n) hBm) t ht
    clear h1 h5
    go_enter Tryd.func40, Tryd.ntmps40
    go_wp2_with fail
    go_quiet (fail)
    go_wp2_with fail
    go_ret2
    exact TextPost.plain (by decide) (by decide) rfl (below_drewN (hbx _) _)
  by_cases h2 : k = 2
  · subst h2
    have E : Hid (∀ o n, Env ((w.alloc o).drewN n)) := Lib.hid fun o n => henv.below henv.2.2 (below_drewN (hbx o) n)
    clear h1 h5 h4 henv
    go_enter Tryd.func40, Tryd.ntmps40
    go_wp2_with fail
    go_region_with (go_at_call 66; refine (isNumeral_any t _ ht (E.out _ 1)).mono ?_; rintro e w1 ⟨rfl, hb⟩; have hbb := Lib.hid (new1_then (n := 1) hb); obtain ⟨x0, x1, x2, y0, y1, y2, hz⟩ := keep3 (n := 1) hb; clear hb)
    all_goals go_wp2
    all_goals go_ret2
    all_goals exact TextPost.plain (by decide) (by decide) rfl hbb.out
  by_cases h3 : k = 3
  · subst h3
    have Q := quoted_any t
    have hT : Lx.isTok 3 t.data.toList = Lx.isText t.data.toList := rfl
    have hq : Lx.quoted t.data.toList = if Lx.isText t.data.toList = true then some ([34] ++ Lx.esc t.data.toList ++ [34]) else none := by
      unfold Lx.quoted Lx.isText
      by_cases a1 : t.data.toList.length ≤ 60
      · by_cases a2 : t.data.toList.all Lx.isPrinted = true
        · rw [if_pos ⟨a1, a2⟩, a2, decide_eq_true a1]; rfl
        · rw [if_neg (fun h => a2 h.2), Bool.eq_false_iff.2 a2]; rfl
      · rw [if_neg (fun h => a1 h.1), decide_eq_false a1, Bool.and_false]; rfl
    cases hb : Lx.isText t.data.toList
    · rw [hb] at hq
      have QQ : Hid (∀ w, Calls Tryd.prog 28 #[.string t] w fun e w' => e = .returned (.tuple #[.string ⟨#[]⟩, .int .i64 2]) ∧ Below w.heap.size w w') := Lib.hid fun w => by
        have := Q w ht; rw [hq] at this; exact this
      have HT := Lib.hid (hT.trans hb)
      clear Q hq hb hT h1 h5 h4 h2
      go_enter Tryd.func40, Tryd.ntmps40
      go_wp2_with (go_at_call 28; refine (QQ.out _).mono ?_; rintro e w1 ⟨rfl, hb⟩)
      go_ret2
      exact ⟨⟨#[]⟩, false, rfl, by rw [HT.out]; rfl, (fun h => by cases h), new1_then' hb⟩
    · rw [hb] at hq
      have QQ : Hid (∀ w, Calls Tryd.prog 28 #[.string t] w fun e w' => e = .returned (.tuple #[.string ⟨([34] ++ Lx.esc t.data.toList ++ [34]).toArray⟩, .int .i64 0]) ∧ Below w.heap.size w w') := Lib.hid fun w => by
        have := Q w ht; rw [hq] at this; exact this
      have HT := Lib.hid (hT.trans hb)
      have HX : Hid ((⟨([34] ++ Lx.esc t.data.toList ++ [34]).toArray⟩ : ByteArray).data.toList = Lx.txt 3 t.data.toList) := Lib.hid (by simp [Lx.txt])
      generalize (⟨([34] ++ Lx.esc t.data.toList ++ [34]).toArray⟩ : ByteArray) = tx at *
      clear Q hq hb hT h1 h5 h4 h2
      go_enter Tryd.func40, Tryd.ntmps40
      go_wp2_with (go_at_call 28; refine (QQ.out _).mono ?_; rintro e w1 ⟨rfl, hb⟩)
      go_ret2
      exact ⟨tx, true, rfl, by rw [HT.out]; rfl, (fun _ => HX.out), new1_then' hb⟩
  have b1 : (k == 1) = false := ibeq_f h1
  have b2 : (k == 2) = false := ibeq_f h2
  have b3 : (k == 3) = false := ibeq_f h3
  have b4 : (k == 4) = false := ibeq_f h4
  have b5 : (k == 5) = false := ibeq_f h5
  have HN : Hid ((Lx.isTok k t.data.toList && !decide (k = 6)) = false) := Lib.hid (by
    unfold Lx.isTok; rw [if_neg h1, if_neg h2, if_neg h3, if_neg h4, if_neg h5]
    by_cases h6 : k = 6
    · rw [decide_eq_true h6]; simp
    · rw [decide_eq_false h6]; simp)
  clear h1 h2 h3 h4 h5
  go_enter Tryd.func40, Tryd.ntmps40
  go_wp2
  go_ret2
  exact ⟨⟨#[]⟩, false, rfl, HN.out.symm, (fun h => by cases h), hbx _⟩

end Go.Proofs.YtbhknpombmdhiaaDoor
