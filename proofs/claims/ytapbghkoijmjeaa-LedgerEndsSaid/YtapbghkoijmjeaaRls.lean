/- What Release does. -/
import Derived.Test.YtapbghkoijmjeaaPop
namespace Go.Proofs.Ytapbghkoijmjeaa
set_option linter.unusedVariables false
set_option linter.unusedSimpArgs false
open Go.RowKit Go.Shelf
section
variable {w : World} {own : Own} {lb : Nat} {L : Lay} {t : Ld.T}
set_option maxRecDepth 100000 in
theorem rls_bad (h : Rep w own lb L t) (task what : Int) (hb : (Ld.knows task && Ld.isWhat what) = false) :
    Calls Try.prog 18 #[ptr lb, .int .i64 task, .int .i64 what] w (still w (.int .i64 2)) := by
  have hlt := h.blk.lt
  unfold still
  by_cases hk : Ld.knows task = true
  · have hw : Ld.isWhat what = false := by rw [hk] at hb; simpa using hb
    obtain ⟨k, rfl, h1, h2⟩ := knows_nat hk
    have KN : Hid (∀ W, Calls Try.prog 38 #[ptr lb, .int .i64 (k : Int)] W (same W (.bool true))) := Lib.hid fun W => knows_yes (k : Int) ⟨lb, 0, none⟩ W (by omega) (by omega)
    have WN : Hid (∀ W, Calls Try.prog 41 #[.int .i64 what] W (same W (.bool false))) := Lib.hid fun W => by have := isWhat_any what W; rwa [hw] at this
    unfold same at KN WN
    clear h hb hk hw
    go_enter Try.func18, Try.ntmps18
    go_wp2_with fail
    refine (KN.out _).mono ?_
    rintro e w2 ⟨rfl, rfl⟩
    go_wp2_with fail
    refine (WN.out _).mono ?_
    rintro e w2 ⟨rfl, rfl⟩
    go_wp2
    go_ret
    exact ⟨rfl, (one _ _).alloc (by simp) _⟩
  · have hk' : Ld.knows task = false := by simpa using hk
    have KN : Hid (∀ W, Calls Try.prog 38 #[ptr lb, .int .i64 task] W (same W (.bool false))) := Lib.hid fun W => knows_no task ⟨lb, 0, none⟩ W hk'
    unfold same at KN
    clear h hb hk hk'
    go_enter Try.func18, Try.ntmps18
    go_wp2_with fail
    refine (KN.out _).mono ?_
    rintro e w2 ⟨rfl, rfl⟩
    go_wp2
    go_ret
    exact ⟨rfl, (one _ _).alloc (by simp) _⟩
theorem lastAt_lt {p : Nat → Bool} : ∀ {l : List Nat} {i : Nat}, Ld.lastAt p l = some i → i < l.length
  | [], i, h => by simp [Ld.lastAt] at h
  | x :: l, i, h => by
    unfold Ld.lastAt at h
    cases hr : Ld.lastAt p l with
    | some j =>
      rw [hr] at h
      have := lastAt_lt hr
      have e : j + 1 = i := by simpa using h
      simp; omega
    | none =>
      rw [hr] at h
      simp only at h
      split at h
      · have e : 0 = i := by simpa using h
        simp; omega
      · cases h
theorem setH_es (t : Ld.T) (k : Nat) (l : List Nat) : (Ld.setH t k l).es = t.es := rfl
set_option maxRecDepth 100000 in
set_option maxHeartbeats 4000000 in
theorem rls_ok (h : Rep w own lb L t) (hk : Ld.Ok t) {k : Nat} (h1 : 1 ≤ k) (h2 : k ≤ 64) (what : Int) (hw : Ld.isWhat what = true) :
    Calls Try.prog 18 #[ptr lb, .int .i64 (k : Int), .int .i64 what] w (goneI w own lb (Ld.release t (k : Int) what)) := by
  have KN : Hid (∀ W, Calls Try.prog 38 #[ptr lb, .int .i64 (k : Int)] W (same W (.bool true))) := Lib.hid fun W => knows_yes (k : Int) ⟨lb, 0, none⟩ W (by omega) (by omega)
  have WN : Hid (∀ W, Calls Try.prog 41 #[.int .i64 what] W (same W (.bool true))) := Lib.hid fun W => by have := isWhat_any what W; rwa [hw] at this
  have hlt := h.blk.lt
  have hB2 : Below w.heap.size w ((w.alloc (.cells #[ptr lb] 23)).alloc (.cells #[.int .i64 what] 3)) := (one _ _).alloc (by simp) _
  have R2 := h.below hB2
  have q0 := (Blk.new w #[ptr lb] 23).alloc (.cells #[.int .i64 what] 3)
  have q1 := Blk.new (w.alloc (.cells #[ptr lb] 23)) #[.int .i64 what] 3
  simp only [World.size_alloc] at q1
  have hlen : (t.hs k).length ≤ 1000 := by have := hk.n40 k; omega
  have hn400 := hk.n400
  have htm := hk.time
  have A := Lib.hid (take_any 45 #[.pointer (some ⟨w.heap.size, 0, none⟩), .pointer (some ⟨w.heap.size + 1, 0, none⟩)] (enters_of Try.func45 (by kernel_rfl) rfl) R2 (k := k) (by omega) hlen (Ld.fits t what) fun W hW a ha =>
    fits_any (R2.below hW) (hk.lt k a ha) (by omega) what ((q0.below hW q0.lt).cell 0 _ rfl) ((q1.below hW q1.lt).cell 0 _ rfl))
  unfold same at KN WN
  unfold takePost at A
  have c0 := q0.cell 0 _ rfl
  have c1 := q1.cell 0 _ rfl
  have Q0 := Lib.hid q0
  have HB2 := Lib.hid hB2
  have HLT := Lib.hid (hk.lt k)
  have HN : Hid (own w.heap.size = none) := Lib.hid (h.not_own (Nat.le_refl _))
  have HH := Lib.hid h
  unfold goneI Ld.release
  rw [show ((k : Int)).toNat = k by omega, if_neg (by rw [hw]; unfold Ld.knows; simp; omega)]
  have kk1 : (0 : Int) ≤ (k : Int) := by omega
  have kk2 : (k : Int) < 65 := by omega
  have kk3 : ((k : Int)).toNat = k := by omega
  have hl2 : lb < ((w.alloc (.cells #[ptr lb] 23)).alloc (.cells #[.int .i64 what] 3)).heap.size := R2.blk.lt
  clear R2 q0 q1 hB2 h
  cases hi : Ld.lastAt (Ld.fits t what) (t.hs k) with
  | none =>
    rw [hi] at A
    simp only at A ⊢
    clear hi hk hw
    go_enter Try.func18, Try.ntmps18
    go_wp2_with fail
    refine (KN.out _).mono ?_
    rintro e w2 ⟨rfl, rfl⟩
    go_wp2_with fail
    refine (WN.out _).mono ?_
    rintro e w2 ⟨rfl, rfl⟩
    go_wp2_with fail
    refine A.out.mono ?_
    rintro e w2 ⟨rfl, hG⟩
    have HG := Lib.hid (hG.from_ HB2.out)
    clear hG A
    go_wp2
    go_ret
    exact ⟨rfl, HG.out⟩
  | some i =>
    rw [hi] at A
    simp only at A ⊢
    have hil : i < (t.hs k).length := lastAt_lt hi
    have hal : (t.hs k).getD i 0 < t.es.length := HLT.out _ (by rw [List.getD_eq_getElem?_getD, List.getElem?_eq_getElem hil]; exact List.getElem_mem _)
    obtain ⟨e0, he0⟩ : ∃ e0, t.es[(t.hs k).getD i 0]? = some e0 := ⟨_, List.getElem?_eq_getElem hal⟩
    obtain ⟨d, hd⟩ : ∃ d, d = (t.hs k).length - 1 - i := ⟨_, rfl⟩
    obtain ⟨bb, hbb⟩ : ∃ bb, bb = decide (i + 1 < (t.hs k).length) := ⟨_, rfl⟩
    have hx : decide (0 < d) = bb := by rw [hbb, hd]; simp only [decide_eq_decide]; omega
    rw [← hd] at A
    rw [← hbb]
    have HE0 := Lib.hid he0
    obtain ⟨m, hm⟩ : ∃ m, t.es.length = m := ⟨_, rfl⟩
    have HM := Lib.hid hm
    obtain ⟨l', hl'⟩ : ∃ l', (t.hs k).eraseIdx i = l' := ⟨_, rfl⟩
    rw [hl'] at A ⊢
    rw [hm] at hal hn400
    generalize (t.hs k).getD i 0 = a at *
    have a1 : (a : Int) < (m : Int) := by omega
    have a2 : (0 : Int) ≤ (a : Int) := by omega
    have a3 : ((a : Int)).toNat = a := by omega
    clear hi hk hw hil hd hbb hl' hm he0 hlen
    go_enter Try.func18, Try.ntmps18
    go_wp2_with fail
    refine (KN.out _).mono ?_
    rintro e w2 ⟨rfl, rfl⟩
    go_wp2_with fail
    refine (WN.out _).mono ?_
    rintro e w2 ⟨rfl, rfl⟩
    go_wp2_with fail
    refine A.out.mono ?_
    rintro e w2 ⟨rfl, hG⟩
    obtain ⟨o2, L2, hR2, hk2, hF2⟩ := hG
    have HG : Hid (Gone w own lb (Ld.setH t k l') w2) := Lib.hid (Gone.from_ HB2.out ⟨o2, L2, hR2, hk2, hF2⟩)
    have HG' : Hid (∃ o L, o = o2 ∧ Rep w2 o lb L (Ld.setH t k l') ∧ (∀ x, x < w.heap.size → o x = own x) ∧ Fr (fun x => own x ≠ none) w w2) := Lib.hid ⟨o2, L2, rfl, hR2, fun x hx => hk2 x (Nat.lt_of_lt_of_le hx HB2.out.size), (Fr.of_below HB2.out).trans hF2⟩
    have C2 := Q0.out.fr hF2 (fun h => h HN.out)
    have ho2 : o2 w.heap.size = none := (hk2 _ Q0.out.lt).trans HN.out
    have c20 := C2.cell 0 _ rfl
    have RL := Lib.hid (release_any hR2 (a := a) (e := e0) HE0.out (by show t.time ≤ 1000000; omega) (by show t.es.length ≤ 1000000; rw [HM.out]; omega))
    have HC2 := Lib.hid C2
    have l2 := C2.lt
    have lb2 := hR2.blk.lt
    have HR2 := Lib.hid hR2
    have HO2 := Lib.hid ho2
    clear hR2 hk2 hF2 C2 c0 c1 A ho2
    go_wp2_with fail
    refine RL.out.mono ?_
    rintro e w3 ⟨rfl, hR3, hF3⟩
    have C3 := HC2.out.fr hF3 (fun h => h HO2.out)
    have c30 := C3.cell 0 _ rfl
    obtain ⟨q3, cap3, ee3, g31, g32, g33⟩ := hR3.eform
    have hm3 : (Ld.relT (Ld.setH t k l') a e0).es.length = m := by simp [Ld.relT, Ld.setH, HM.out]
    obtain ⟨g, rfl, og3, hg3, hz3, hcell3⟩ := g33 (by omega)
    have b1 := hR3.blk.cell 1 _ rfl
    rw [ee3, hm3] at b1
    rw [hm3] at ee3
    have he3 : (Ld.relT (Ld.setH t k l') a e0).es[a]? = some { e0 with to_ := ((t.time + 1 : Nat) : Int) } := by
      show (t.es.set a _)[a]? = _
      rw [List.getElem?_set_self (by rw [HM.out]; exact hal)]; rfl
    have q4 := hcell3 a _ he3 4 _ rfl
    have z4 := hz3 (a * 6 + 4)
    obtain ⟨R4, F4⟩ := set_rep hR3 (e' := { e0 with to_ := ((t.time + 1 : Nat) : Int), cr := bb }) he3 ee3 (j := 4) (by omega) (v := .bool bb) rfl
    have HF : Hid (Gone w own lb (Ld.relE (Ld.setH t k l') a (Ld.crs bb)) (w3.setCell ⟨g, a * 6 + 4, none⟩ (.bool bb))) := Lib.hid (by
      have e5 : Ld.relE (Ld.setH t k l') a (Ld.crs bb) = { Ld.relT (Ld.setH t k l') a e0 with es := (Ld.relT (Ld.setH t k l') a e0).es.set a { e0 with to_ := ((t.time + 1 : Nat) : Int), cr := bb } } := by
        unfold Ld.relE
        rw [show (Ld.setH t k l').es[a]? = some e0 from HE0.out]
        simp [Ld.relT, Ld.setH, Ld.crs]
      rw [e5]
      exact HG.out.then' HG'.out ⟨o2, L2, R4, fun _ _ => rfl, hF3.trans F4⟩)
    have l3 := C3.lt
    have lb3 := hR3.blk.lt
    have hg3' := hg3
    clear hR3 hF3 C3 ee3 g31 g33 hcell3 he3 hz3 og3 R4 F4 hm3 RL hg3 c20
    go_wp2
    go_ret
    exact ⟨rfl, HF.out⟩
theorem rls_any (h : Rep w own lb L t) (hk : Ld.Ok t) (task what : Int) : Calls Try.prog 18 #[ptr lb, .int .i64 task, .int .i64 what] w (goneI w own lb (Ld.release t task what)) := by
  by_cases hb : (Ld.knows task && Ld.isWhat what) = false
  · unfold goneI Ld.release
    rw [if_pos hb]
    refine (rls_bad h task what hb).mono ?_
    rintro e w' ⟨rfl, hb⟩
    exact ⟨rfl, h.goneB hb⟩
  · have hb' : Ld.knows task = true ∧ Ld.isWhat what = true := by simpa using hb
    obtain ⟨k, rfl, h1, h2⟩ := knows_nat hb'.1
    exact rls_ok h hk h1 h2 what hb'.2
end
end Go.Proofs.Ytapbghkoijmjeaa
