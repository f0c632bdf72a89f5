/- What Tokens returns, for every string: its tokens in a new list, or the position of an error and its number. -/
import Derived.Test.YtbhknpombmdhiaaDoorRange
import Derived.Maps.AppendAt
namespace Go.Proofs.YtbhknpombmdhiaaDoor
open Go.RowKit Go.Shelf
attribute [local go_sem] Oper.semAt_some

theorem info47 : (Tryd.prog.info? 47).map (fun i => (i.zero, i.size, i.bytes)) = some (some (.agg #[.int .i64 0, .string ⟨#[]⟩, .int .i64 0]), 3, 32) := by kernel_rfl

/-- The cells of a token, and of a list of tokens. -/
def cells3 (x : Lx.Tok) : List Value := [.int .i64 x.1, .string ⟨x.2.1.toArray⟩, .int .i64 (x.2.2 : Nat)]
def cellsT (l : List Lx.Tok) : List Value := l.flatMap cells3
theorem cellsT_snoc (l : List Lx.Tok) (x : Lx.Tok) : cellsT (l ++ [x]) = cellsT l ++ cells3 x := by simp [cellsT]

/-- What the caller's memory is between two rounds. -/
structure TokJ (w : World) (b : Nat) (rec : Loop) (pre : List Lx.Tok) (W : World) : Prop where
  box : ∃ v, Boxed W b 23 v ∧ W.ownsRow b 47 3 v pre.length (cellsT pre)
  loop : W.heap[b + 2]? = some (.loop rec)
  dfr : W.heap[b + 1]? = some (.deferred (some []))
  low : Below w.heap.size w W

theorem own_kept_only {W W' : World} {b S n : Nat} {v : Value} {xs : List Value} (h : W.ownsRow b 47 3 v n xs) (ho : Only S W W') (hS : S < b) : W'.ownsRow b 47 3 v n xs := by
  refine ⟨h.1, ?_⟩
  rcases h.2 with h0 | ⟨g, cap, cur, e, hb, hg, r⟩
  · exact .inl h0
  · exact .inr ⟨g, cap, cur, e, hb, (ho.block g (Array.getElem?_eq_some_iff.1 hg).1 (by omega)).trans hg, r⟩

theorem TokJ.only {w W W' : World} {b S : Nat} {rec : Loop} {pre : List Lx.Tok} (h : TokJ w b rec pre W) (ho : Only S W W') (hS : S < b) (hw : w.heap.size ≤ S) : TokJ w b rec pre W' := by
  obtain ⟨⟨v, hv, hr⟩, hl, hd, hb⟩ := h
  have s1 := (Array.getElem?_eq_some_iff.1 hl).1
  exact ⟨⟨v, (ho.block b (by omega) (by omega)).trans hv, own_kept_only hr ho hS⟩, (ho.block _ s1 (by omega)).trans hl, (ho.block _ (by omega) (by omega)).trans hd, hb.trans (ho.below hw hb.size)⟩

theorem own_put {W : World} {b k n : Nat} {v : Value} {xs : List Value} {o : Obj} (h : W.ownsRow b 47 3 v n xs) (o' : Obj) (hk : W.heap[k]? = some o) (ho : o.isCells = false) : (W.putObj k o').ownsRow b 47 3 v n xs := ownsRow_putObj h o' hk ho

theorem TokJ.turn {w W : World} {b : Nat} {rec : Loop} {pre : List Lx.Tok} (h : TokJ w b rec pre W) (rec' : Loop) (hw : w.heap.size ≤ b) : TokJ w b rec' pre (W.putObj (b + 2) (.loop rec')) := by
  obtain ⟨⟨v, hv, hr⟩, hl, hd, hb⟩ := h
  have s1 := (Array.getElem?_eq_some_iff.1 hl).1
  refine ⟨⟨v, (World.putObj_heap_other (by omega)).trans hv, ownsRow_putObj hr _ hl rfl⟩, World.putObj_heap_same s1, (World.putObj_heap_other (by omega)).trans hd, ?_⟩
  exact hb.trans ((Below.refl _ W).grown (grownBy_putObj' W _ _) hb.size (fun k e => by cases e; omega))

theorem cell_three_new (w : World) (a b c : Value) (t : TypeId) : ∀ j u, [a, b, c][j]? = some u → (w.alloc (.cells #[a, b, c] t)).cell? ((⟨w.heap.size, 0, none⟩ : Addr).add j) = some u := by
  intro j u h
  have e : (⟨w.heap.size, 0, none⟩ : Addr).add j = ⟨w.heap.size, j, none⟩ := by simp [Addr.add]; omega
  rw [e, World.cell?_alloc_at _ _ _ _ rfl]
  simpa using h

theorem own_base {W : World} {b b' n : Nat} {v : Value} {xs : List Value} (h : W.ownsRow b 47 3 v n xs) (hb : b' ≤ b) : W.ownsRow b' 47 3 v n xs := by
  refine ⟨h.1, ?_⟩
  rcases h.2 with h0 | ⟨g, cap, cur, e, hg, r⟩
  · exact .inl h0
  · exact .inr ⟨g, cap, cur, e, by omega, r⟩

/-- What Tokens comes to. -/
def TokPost (src : ByteArray) (w : World) (e : Ending) (w' : World) : Prop :=
  ((Lx.tokens src.data.toList).2 = none → ∃ v, e = .returned (.tuple #[v, .int .i64 0, .int .i64 0]) ∧ w'.ownsRow w.heap.size 47 3 v (Lx.tokens src.data.toList).1.length (cellsT (Lx.tokens src.data.toList).1)) ∧
  (∀ p, (Lx.tokens src.data.toList).2 = some p → e = .returned (.tuple #[.slice none 0 0, .int .i64 (p : Nat), .int .i64 4])) ∧ Below w.heap.size w w'

set_option maxRecDepth 100000 in
set_option maxHeartbeats 4000000 in
theorem tokens_any (src : ByteArray) (w : World) (henv : Env w) (hs : src.size ≤ 4000) :
    Calls Tryd.prog 15 #[.string src] w (TokPost src w) := by
  have hmf : ∀ (fn : Fn) (first cap : Array Value) (w : World), (Instr.makeFunc fn first cap).run Tryd.prog w = .ok (.func fn first cap) w := fun _ _ _ _ => rfl
  have hd : decide ((4000 : Int) < src.size) = false := by simp; omega
  obtain ⟨i0, hi, hz0, hz1, hz2⟩ := info_parts info47
  have HI := Lib.hid hi; have HZ0 := Lib.hid hz0; have HZ1 := Lib.hid hz1; have HZ2 := Lib.hid hz2
  clear hi hz0 hz1 hz2
  refine (callsIn_wide (n := 3)).1 ?_
  refine callsIn_of_wp_marks Tryd.func15 rfl trivial ?_ rfl
  simp only [Tryd.ntmps15, List.size_toArray, List.length_cons, List.length_nil, Nat.reduceAdd, Nat.reduceSub, Array.replicate_succ, Array.replicate_zero, List.push_toArray, List.append_toArray, List.nil_append, List.cons_append]
  gi_wp2_with fail
  refine ⟨trivial, ?_⟩
  refine (callsIn_wide.2 (newScanner_any src w)).mono ?_
  rintro e w1 ⟨S, Bm, rfl, hsc, hBm, hS2, hb1⟩
  have hlt := hsc.lt
  have hz1 := hb1.size
  have hE1 := henv.below henv.2.2 hb1
  have h8 := henv.2.2
  have HSC := Lib.hid hsc
  have HE := Lib.hid hE1
  have HB1 := Lib.hid hb1
  clear hsc hE1 hb1 henv
  gi_wp2_with fail
  have hsz : (w1.alloc (.cells #[.slice none 0 0] 23)).heap.size = w1.heap.size + 1 := World.size_alloc _ _
  refine range_bound rfl (enters_of Tryd.func36 (by kernel_rfl) rfl) ?_
  intro rec rst rpe rtm rps ras rbo
  rw [hsz]
  refine (tokens_in 2 (w1.heap.size + 1 + 1) S Bm src (TokJ w w1.heap.size rec) ?_ ?_ _ ?_ ?_ (by omega) (by omega) ?_).mono ?_
  · exact fun pre W W' h ho => h.only ho (by omega) (by omega)
  · rintro pre x W ⟨⟨v, hv, hr⟩, hl, hd, hb⟩ hlen hSz
    have hy := run_yield (P := Tryd.prog) (args := #[encV x]) hl (by rw [rps]; rfl)
    rw [rtm, rps, ras, rbo] at hy
    refine ⟨rec.fn, _, _, _, hy, roundIn_of_wpIn trivial ?_⟩
    have hsW := (Array.getElem?_eq_some_iff.1 hl).1
    have J0 : TokJ w w1.heap.size rec pre W := ⟨⟨v, hv, hr⟩, hl, hd, hb⟩
    have J1 := J0.only (Only.of_below (S := S) ((Below.refl W.heap.size W).alloc (Nat.le_refl _) (.cells #[.int .i64 x.1, .string ⟨x.2.1.toArray⟩, .int .i64 (x.2.2 : Nat)] 47))) (by omega) (by omega)
    have hla := J1.loop
    have J2 := J1.turn { rec with state := .busy } (by omega)
    have hla' : (W.alloc (.cells #[.int .i64 x.1, .string ⟨x.2.1.toArray⟩, .int .i64 (x.2.2 : Nat)] 47)).heap[w1.heap.size + 1 + 1]? = some (.loop rec) := hla
    have x2 : ((W.alloc (.cells #[.int .i64 x.1, .string ⟨x.2.1.toArray⟩, .int .i64 (x.2.2 : Nat)] 47)).putObj (w1.heap.size + 2) (.loop { rec with state := .busy })).heap[W.heap.size]? = some (.cells #[.int .i64 x.1, .string ⟨x.2.1.toArray⟩, .int .i64 (x.2.2 : Nat)] 47 (0, 0)) := (World.putObj_heap_other (by omega)).trans (World.alloc_heap_new W _)
    have B2 : Below w1.heap.size W ((W.alloc (.cells #[.int .i64 x.1, .string ⟨x.2.1.toArray⟩, .int .i64 (x.2.2 : Nat)] 47)).putObj (w1.heap.size + 2) (.loop { rec with state := .busy })) :=
      ((Below.refl w1.heap.size W).alloc (by omega) _).grown (grownBy_putObj' _ _ _) (by simp; omega) (fun k e => by cases e; omega)
    have HBR := Lib.hid (run_beginRound (P := Tryd.prog) hla' rst)
    have HY := Lib.hid hy
    clear hy hv hr hl hd hb J0 J1 hla hla'
    generalize hW2 : (W.alloc (.cells #[.int .i64 x.1, .string ⟨x.2.1.toArray⟩, .int .i64 (x.2.2 : Nat)] 47)).putObj (w1.heap.size + 2) (.loop { rec with state := .busy }) = W2 at *
    have HW2 := Lib.hid hW2
    clear hW2
    unfold encV
    gi_wp2
    refine ⟨W2, HBR.out, ?_⟩
    obtain ⟨⟨v, hv, hr⟩, hl, hd, hb⟩ := J2
    have y0 : W2.cell? ⟨W.heap.size, 0, none⟩ = some (.int .i64 x.1) := cell_of x2 rfl
    have y1 : W2.cell? ⟨W.heap.size, 1, none⟩ = some (.string ⟨x.2.1.toArray⟩) := cell_of x2 rfl
    have y2 : W2.cell? ⟨W.heap.size, 2, none⟩ = some (.int .i64 (x.2.2 : Nat)) := cell_of x2 rfl
    have hc := hv.cell
    have HV := Lib.hid hv; have HR := Lib.hid hr; have HLo := Lib.hid hl; have HD := Lib.hid hd; have HBl := Lib.hid hb; have HB2 := Lib.hid B2
    have hzW := B2.size
    clear hv hr hl hd hb B2 x2
    gi_wp2_with (gi_at_builtin; refine wpListIn_append_own _ rfl _ _ 23 rfl w1.heap.size 47 i0 (.agg #[.int .i64 0, .string ⟨#[]⟩, .int .i64 0]) 3 32 Tryd.underlying23 HI.out HZ0.out HZ1.out HZ2.out rfl (by decide) _ _ _ rfl (HR.out.alloc _) ⟨W2.heap.size, 0, none⟩ 1 1 [.int .i64 x.1, .string ⟨x.2.1.toArray⟩, .int .i64 (x.2.2 : Nat)] rfl rfl ?n1 ?n2 ?n3 ?n4 ?n5 ?_)
    case n1 => exact cell_three_new _ _ _ _ _
    case n2 => simp [Value.oneCell']
    case n3 => unfold maxLen; omega
    case n4 => omega
    case n5 => simp; omega
    intro v' w3 hown' hgrow _
    obtain ⟨g', cap', rfl⟩ := ownsRow_succ hown'
    obtain ⟨hv1, hv2, hr2, hk2, hb2⟩ := HV.out.appended (by decide) HR.out (by omega) (Nat.le_refl _) hown' hgrow
    have hc1 := hv1.cell
    have hf1 := hv1.frozen
    have HV2 := Lib.hid hv2; have HR2 := Lib.hid hr2; have HK2 := Lib.hid hk2; have HBL2 := Lib.hid hb2
    clear hown' hgrow hv1 hv2 hr2 hk2 hb2
    gi_wp2
    have hl4 := HK2.out.same _ _ HLo.out rfl
    have hd4 := HK2.out.same _ _ HD.out rfl
    have J4 : TokJ w w1.heap.size { rec with state := .busy } (pre ++ [x]) (w3.setCell ⟨w1.heap.size, 0, none⟩ (.slice (some ⟨g', 0, none⟩) (pre.length + 1) cap')) :=
      ⟨⟨_, HV2.out, by rw [cellsT_snoc, List.length_append]; exact HR2.out⟩, hl4, hd4, HBl.out.trans (HBL2.out.mono (by omega))⟩
    have J5 := J4.turn rec (by omega)
    have er : ({ ({ rec with state := .busy } : Loop) with state := if (none : Option Code).isNone then .ready else .done, pending := none } : Loop) = rec := by
      cases rec; simp at rst rpe ⊢; exact ⟨rst.symm, rpe.symm⟩
    have hend := run_endRound (P := Tryd.prog) none hl4
    rw [er] at hend
    exact ⟨_, _, hend, rfl, J5, (HB2.out.trans HBL2.out).trans ((Below.refl _ _).grown (grownBy_putObj' _ _ _) (by have := HBL2.out.size; omega) (fun k e => by cases e; omega))⟩
  · refine HSC.out.below ((((Below.refl w1.heap.size w1).alloc (Nat.le_refl _) _).alloc (by simp) _).alloc (by simp; omega) _) (by omega)
  · refine HE.out.below HE.out.2.2 ((((Below.refl w1.heap.size w1).alloc (Nat.le_refl _) _).alloc (by simp) _).alloc (by simp; omega) _)
  · refine ⟨⟨_, ((Boxed.new w1 23 (.slice none 0 0)).alloc _).alloc _, World.ownsRow_nil _ _ _ _⟩, ?_, ?_, ?_⟩
    · have := World.alloc_heap_new ((w1.alloc (.cells #[.slice none 0 0] 23)).alloc (.deferred (some []))) (.loop rec)
      rw [World.size_alloc, hsz] at this
      exact this
    · have := World.alloc_heap_new (w1.alloc (.cells #[.slice none 0 0] 23)) (.deferred (some []))
      rw [hsz] at this
      exact (Below.heap_alloc _ _ _ (by simp)).trans this
    · exact ((((HB1.out.alloc hz1 _).alloc (by simp; omega) _).alloc (by simp; omega) _))
  · rintro e W ⟨⟨v0, rfl⟩, ⟨hn, hJ, aE, hscE⟩ | ⟨p, hp, hJ, hscE⟩⟩
    · have J4 := hJ.turn { rec with state := .exhausted } (by omega)
      have B4 : Below w1.heap.size W (W.putObj (w1.heap.size + 2) (.loop { rec with state := .exhausted })) := (Below.refl _ _).grown (grownBy_putObj' _ _ _) (by have := (Array.getElem?_eq_some_iff.1 hJ.loop).1; omega) (fun k e => by cases e; omega)
      have hs4 := hscE.below B4 (by omega)
      have hend := (run_endLoop (P := Tryd.prog) hJ.loop (by rw [rst]; simp))
      have HEND := Lib.hid hend
      clear B4 hscE hJ hend
      generalize W.putObj (w1.heap.size + 2) (.loop { rec with state := .exhausted }) = W4 at *
      refine ⟨none, W4, HEND.out.trans (by rw [rpe]), ?_⟩
      clear HEND
      obtain ⟨⟨v, hv, hr⟩, _, hdd, hbb⟩ := J4
      have hc := hv.cell
      have c2 := hs4.c2
      have HN := Lib.hid hn
      have HR := Lib.hid hr
      have HD := Lib.hid hdd
      have HBB := Lib.hid hbb
      clear hn hr hv hs4 hdd hbb
      gi_wp2
      refine ⟨by simp, .inl ⟨_, _, rfl, run_takeDeferred HD.out, ?_⟩⟩
      refine ⟨_, results_tmp3 rfl _ _ _, fun _ => ⟨v, rfl, own_base (ownsRow_putObj HR.out _ HD.out rfl) (by omega)⟩, fun p hp => ?_, HBB.out.trans ((Below.refl w.heap.size W4).grown (grownBy_putObj' _ _ _) HBB.out.size (fun k e => by cases e; omega))⟩
      rw [HN.out] at hp; cases hp
    · have J4 := hJ.turn { rec with state := .exhausted } (by omega)
      have B4 : Below w1.heap.size W (W.putObj (w1.heap.size + 2) (.loop { rec with state := .exhausted })) := (Below.refl _ _).grown (grownBy_putObj' _ _ _) (by have := (Array.getElem?_eq_some_iff.1 hJ.loop).1; omega) (fun k e => by cases e; omega)
      have hs4 := hscE.below B4 (by omega)
      have hend := (run_endLoop (P := Tryd.prog) hJ.loop (by rw [rst]; simp))
      have HEND := Lib.hid hend
      clear B4 hscE hJ hend
      generalize W.putObj (w1.heap.size + 2) (.loop { rec with state := .exhausted }) = W4 at *
      refine ⟨none, W4, HEND.out.trans (by rw [rpe]), ?_⟩
      clear HEND
      obtain ⟨⟨v, hv, hr⟩, _, hdd, hbb⟩ := J4
      have c1 := hs4.c1
      have c2 := hs4.c2
      have HN := Lib.hid hp
      have HD := Lib.hid hdd
      have HBB := Lib.hid hbb
      clear hp hr hv hs4 hdd hbb
      gi_wp2
      gi_region
      all_goals gi_wp2
      all_goals refine ⟨by simp, .inl ⟨_, _, rfl, run_takeDeferred (w := W4.drew) HD.out, ?_⟩⟩
      all_goals refine ⟨_, results_tmp3 rfl _ _ _, fun h => ?_, fun q hq => ?_, HBB.out.drew.trans ((Below.refl w.heap.size W4.drew).grown (grownBy_putObj' _ _ _) HBB.out.drew.size (fun k e => by cases e; omega))⟩
      · rw [HN.out] at h; cases h
      · rw [HN.out] at hq; cases hq; rfl

end Go.Proofs.YtbhknpombmdhiaaDoor
