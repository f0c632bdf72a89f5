/- LedgerEnds. -/
import Derived.Test.YtapbghkoijmjeaaEndRel
import Derived.Test.YtapbghkoijmjeaaMade
import Derived.Test.YtapbghkoijmjeaaLawNested
namespace Go.Proofs.Ytapbghkoijmjeaa
set_option linter.unusedVariables false
set_option linter.unusedSimpArgs false
open Go.RowKit Go.Shelf
theorem lc0 : Lc Ld.new := by intro i e he; simp [Ld.new] at he
theorem plays_lc : ∀ (l : List Op) {t : Ld.T}, Ld.Inv t → Lc t → Lc (Ld.plays t l)
  | [], _, _, hc => hc
  | o :: r, _, h, hc => plays_lc r (h.step o) (hc.step h o)
theorem info36 : (Try.prog.info? 36).map (fun i => (i.zero, i.size, i.bytes)) = some (some (.slice none 0 0), 1, 24) := by kernel_rfl
/-- A list of numbers in memory that the ledger does not reach. -/
def NumA (w wr : World) (own : Own) (v : Value) (l : List Int) : Prop := wr.ownsRow w.heap.size 3 1 v l.length (l.map (Value.int .i64)) ∧ ∀ r, v.ownBlock = some r → own r = none
theorem NumA.below {w wr w2 : World} {own : Own} {v : Value} {l : List Int} (h : NumA w wr own v l) (hb : Below wr.heap.size wr w2) : NumA w w2 own v l :=
  ⟨owns_fr h.1 (Fr.of_below (S := none_) hb) (fun _ _ h => h), h.2⟩
theorem NumA.gone {w wr w2 : World} {own own' : Own} {v : Value} {l : List Int} (h : NumA w wr own v l) (hF : Fr (fun k => own k ≠ none) wr w2) (hk : ∀ k, k < wr.heap.size → own' k = own k) : NumA w w2 own' v l :=
  ⟨owns_fr h.1 hF (fun r e hx => hx (h.2 r e)), fun r e => by rw [hk r (h.1.lt r e).2]; exact h.2 r e⟩
theorem NumA.frO {w wr w2 : World} {own : Own} {v u : Value} {l : List Int} {b n : Nat} {xs : List Value} (h : NumA w wr own v l) (hu : wr.ownsRow b 36 1 u n xs) (hF : Fr (fun x => u.ownBlock = some x) wr w2) : NumA w w2 own v l := by
  refine ⟨owns_fr h.1 hF (fun r e hx => ?_), h.2⟩
  rcases h.1.2 with ⟨h1, _⟩ | ⟨g, c, cur, h1, _, h3, _⟩
  · rw [h1] at e; simp [Value.ownBlock] at e
  · rcases hu.2 with ⟨h4, _⟩ | ⟨g', c', cur', h4, _, h6, _⟩
    · rw [h4] at hx; simp [Value.ownBlock] at hx
    · rw [h1] at e
      rw [h4] at hx
      simp only [Value.ownBlock, Option.some.injEq] at e hx
      rw [e] at h3
      rw [hx, h3] at h6
      simp at h6
def heldL (t : Ld.T) (i : Nat) : List Int := (t.hs i).map (Ld.whatOf t)
/-- What all tasks hold, as lists in memory. -/
structure Oth (w wr : World) (own : Own) (v : Value) (vs : List Value) (t : Ld.T) (m : Nat) : Prop where
  row : wr.ownsRow w.heap.size 36 1 v vs.length vs
  len : vs.length = m
  each : ∀ i, i < m → ∃ p c, vs[i]? = some (.slice p (heldL t (i + 1)).length c) ∧ NumA w wr own (.slice p (heldL t (i + 1)).length c) (heldL t (i + 1))
  out_ : ∀ r, v.ownBlock = some r → own r = none
theorem Oth.below {w wr w2 : World} {own : Own} {v : Value} {vs : List Value} {t : Ld.T} {m : Nat} (h : Oth w wr own v vs t m) (hb : Below wr.heap.size wr w2) : Oth w w2 own v vs t m :=
  ⟨owns_fr h.row (Fr.of_below (S := none_) hb) (fun _ _ h => h), h.len, fun i hi => by obtain ⟨p, c, h1, h2⟩ := h.each i hi; exact ⟨p, c, h1, h2.below hb⟩, h.out_⟩
theorem Oth.gone {w wr w2 : World} {own own' : Own} {v : Value} {vs : List Value} {t : Ld.T} {m : Nat} (h : Oth w wr own v vs t m) (hF : Fr (fun k => own k ≠ none) wr w2) (hk : ∀ k, k < wr.heap.size → own' k = own k) : Oth w w2 own' v vs t m :=
  ⟨owns_fr h.row hF (fun r e hx => hx (h.out_ r e)), h.len, fun i hi => by obtain ⟨p, c, h1, h2⟩ := h.each i hi; exact ⟨p, c, h1, h2.gone hF hk⟩, fun r e => by rw [hk r (h.row.lt r e).2]; exact h.out_ r e⟩
theorem numa_open {w wr w2 : World} {b : Nat} {t : Ld.T} {own : Own} {v : Value} {l : List Int} (h : MdR w wr b t own) (hT : NumsR wr w2 v l) : NumA w w2 own v l := by
  obtain ⟨L, hL⟩ := h.ow.rep
  exact ⟨owns_base hT.1 h.ow.bel.size, fun r e => hL.not_own (hT.1.lt r e).1⟩
theorem oth_app {w wr B w2 : World} {b : Nat} {t t0 : Ld.T} {own : Own} {po : Option Addr} {co n c : Nat} {p : Option Addr} {vs : List Value} {m : Nat} {v5 : Value} {H : List Int} {hv : Value} (hM : MdR w wr b t own) (h : Oth w wr own (.slice po n co) vs t0 m) (hn : n = vs.length)
    (hH : NumA w wr own hv H) (hx : NumA w wr own (.slice p (heldL t0 (m + 1)).length c) (heldL t0 (m + 1))) (hAB : Below wr.heap.size wr B) (hG : B.grownBy w2 (Value.slice po n co).ownBlock)
    (hown : w2.ownsRow w.heap.size 36 1 v5 (n + 1) (vs ++ [Value.slice p (heldL t0 (m + 1)).length c])) (hat : v5.ownBlock = (Value.slice po n co).ownBlock ∨ v5.ownBlock = some B.heap.size) :
    MdR w w2 b t own ∧ Oth w w2 own v5 (vs ++ [Value.slice p (heldL t0 (m + 1)).length c]) t0 (m + 1) ∧ NumA w w2 own hv H ∧ ∃ g k, v5 = .slice (some ⟨g, 0, none⟩) (vs ++ [Value.slice p (heldL t0 (m + 1)).length c]).length k := by
  have h2 := h.below hAB
  have hsz := hAB.size
  obtain ⟨L, hL⟩ := hM.ow.rep
  have hF : Fr (fun x => (Value.slice po n co).ownBlock = some x) B w2 := by
    refine (Fr.refl _ _).grown hG (fun x e => .inl e) (fun x e => ?_)
    rcases h2.row.2 with ⟨h1, _⟩ | ⟨g, c, cur, h1, _, h3, _⟩
    · rw [h1] at e; simp [Value.ownBlock] at e
    · rw [h1] at e
      simp only [Value.ownBlock, Option.some.injEq] at e
      subst e
      exact ⟨cur, 36, (0, 0), h3⟩
  have hlen : (vs ++ [Value.slice p (heldL t0 (m + 1)).length c]).length = n + 1 := by rw [hn]; simp
  refine ⟨(hM.below hAB).fr hF (fun k hk => h.out_ k hk) (fun k hk => (h.row.lt k hk).1), ⟨by rw [hlen]; exact hown, by rw [hlen, hn, h.len], fun i hi => ?_, fun r e => ?_⟩, (hH.below hAB).frO h2.row hF, ?_⟩
  · by_cases him : i < m
    · obtain ⟨p', c', h3, h4⟩ := h2.each i him
      exact ⟨p', c', by rw [List.getElem?_append_left (by rw [h.len]; exact him)]; exact h3, h4.frO h2.row hF⟩
    · obtain rfl : i = m := by omega
      exact ⟨p, c, by rw [List.getElem?_append_right (by rw [h.len]; exact Nat.le_refl _), h.len]; simp, (hx.below hAB).frO h2.row hF⟩
  · rcases hat with h1 | h1
    · exact h.out_ r (by rw [← h1]; exact e)
    · rw [h1] at e
      cases e
      exact hL.not_own hsz
  · rw [hlen]
    rcases hown.2 with ⟨e, h0⟩ | ⟨g', cap', cur, e, h1, h2, h3, h4, h5⟩
    · omega
    · exact ⟨g', cap', e⟩
theorem MdR.ended {w wr w2 : World} {b : Nat} {t : Ld.T} {own : Own} {task : Int} {e : Ending} (h : MdR w wr b t own) (hE : endPost wr own b (Ld.end_ t task) e w2) : ∃ p cap own', e = .returned (.tuple #[.slice p (Ld.end_ t task).2.1.length cap, .int .i64 (Ld.end_ t task).2.2]) ∧ MdR w w2 b (Ld.end_ t task).1 own' ∧ (∀ x, x < wr.heap.size → own' x = own x) ∧ Fr (fun x => own x ≠ none) wr w2 ∧
    w2.ownsRow wr.heap.size 3 1 (.slice p (Ld.end_ t task).2.1.length cap) (Ld.end_ t task).2.1.length ((Ld.end_ t task).2.1.map (Value.int .i64)) ∧ (∀ b, (Value.slice p (Ld.end_ t task).2.1.length cap).ownBlock = some b → own' b = none) := by
  obtain ⟨p, cap, own', L', h1, _, _, h2, h3, h4, h5, h6⟩ := hE
  refine ⟨p, cap, own', h1, ⟨⟨⟨L', h2⟩, (h.inv.end_ task).ok, fun k r e => ?_, h.ow.bel.trans (h4.below h.ge h.ow.bel.size)⟩, h.inv.end_ task⟩, h3, h4, h5, h6⟩
  by_cases hkl : k < wr.heap.size
  · rw [h3 k hkl] at e; exact h.ow.ge k r e
  · have := h.ow.bel.size; omega
theorem MdR.leaks {w wr : World} {b : Nat} {t : Ld.T} {own : Own} (h : MdR w wr b t own) : Calls Try.prog 21 #[ptr b] wr (numsPost wr (ints (Ld.which (fun e => e.lk) t.es))) := by
  obtain ⟨L, hL⟩ := h.ow.rep
  exact leaks_any hL (by have := h.inv.n400; omega)
theorem sound_lk {t : Ld.T} (h : 0 < (Ld.which (fun e => e.lk) t.es).length) : Ld.sound t = false := by
  obtain ⟨i, hi⟩ := List.exists_mem_of_length_pos h
  unfold Ld.which at hi
  rw [List.mem_filter, List.mem_range] at hi
  obtain ⟨h1, h2⟩ := hi
  unfold Ld.hit at h2
  rw [List.getElem?_eq_getElem h1] at h2
  have := which_ne_of (p := Ld.unsound) (List.getElem?_eq_getElem h1) (by unfold Ld.unsound; simp only at h2; rw [h2]; simp)
  unfold Ld.sound
  cases hl : (Ld.which Ld.unsound t.es).length with
  | zero => omega
  | succ n => rfl
theorem lk_not_cr {t : Ld.T} (h : Lc t) {x : Int} (hx : x ∈ ints (Ld.which (fun e => e.lk) t.es)) : (ints (Ld.which (fun e => e.cr) t.es)).contains x = false := by
  cases hc : (ints (Ld.which (fun e => e.cr) t.es)).contains x with
  | false => rfl
  | true =>
    rw [List.contains_iff_mem] at hc
    unfold ints at hx hc
    obtain ⟨i, hi, rfl⟩ := List.mem_map.1 hx
    obtain ⟨j, hj, hji⟩ := List.mem_map.1 hc
    have : j = i := by omega
    subst this
    obtain ⟨e, he, h1⟩ := (mem_cr _ _).1 hj
    unfold Ld.which at hi
    rw [List.mem_filter, List.mem_range] at hi
    have h2 := hi.2
    unfold Ld.hit at h2
    rw [he] at h2
    exact absurd ⟨h2, h1⟩ (h j e he)
theorem contains_row (w : World) {b : Nat} {p : Option Addr} {cap : Nat} (l : List Int) (x : Int) (hl : l.length ≤ 1000000) (h : w.ownsRow b 3 1 (.slice p l.length cap) l.length (l.map (Value.int .i64))) :
    Calls Try.prog 29 #[.slice p l.length cap, .int .i64 x] w fun e w' => e = .returned (.bool (l.contains x)) ∧ w' = w := by
  rcases List.eq_nil_or_concat l with rfl | ⟨l', a, hc⟩
  · exact Any.slices_Contains_int_empty Try.lays107 p cap x w
  · have hp : ∃ g, p = some ⟨g, 0, none⟩ := by
      rcases h.2 with ⟨h1, h0⟩ | ⟨g, cap', cur, h1, _⟩
      · rw [hc] at h0; simp at h0
      · cases h1; exact ⟨g, rfl⟩
    obtain ⟨g, rfl⟩ := hp
    obtain ⟨hcell, hf⟩ := row_ints h
    have := Any.slices_Contains_int Try.lays107 g 0 l.length cap l x w (Nat.le_refl _) (by omega) hcell
    rw [List.take_length] at this
    exact this
theorem end_facts {t : Ld.T} (h : Ld.Inv t) (hc : Lc t) {q : Nat} (q1 : 1 ≤ q) (q2 : q ≤ 64) : (Ld.end_ t (q : Int)).2.2 = 0 ∧ (Ld.end_ t (q : Int)).2.1 = (heldL t q).reverse ∧ Lc (Ld.end_ t (q : Int)).1 ∧ (∀ j, j ≠ q → heldL (Ld.end_ t (q : Int)).1 j = heldL t j) ∧ heldL (Ld.end_ t (q : Int)).1 q = [] ∧
    (ints (Ld.which (fun e => e.lk) (Ld.end_ t (q : Int)).1.es)).length = (ints (Ld.which (fun e => e.lk) t.es)).length + (heldL t q).length := by
  have hk : Ld.knows (q : Int) = true := by unfold Ld.knows; simp; omega
  have hd := dr (k := q) (t.hs q).reverse h (by simp)
  have hl := Lc.drain (k := q) (t.hs q).reverse h hc (by simp)
  have hq : ((q : Int)).toNat = q := by omega
  unfold Ld.end_
  rw [if_neg (by rw [hk]; simp), hq]
  refine ⟨rfl, ?_, hl, fun j hj => ?_, ?_, ?_⟩
  · show (Ld.drain q _ t).2 = _
    rw [hd.out, heldL, List.map_reverse]
  · unfold heldL
    show ((Ld.drain q _ t).1.hs j).map _ = _
    rw [hd.hs]
    simp only [if_neg hj]
    exact List.map_congr_left fun a _ => hd.what a
  · unfold heldL
    show ((Ld.drain q _ t).1.hs q).map _ = _
    rw [hd.hs]
    simp
  · simp only [ints, List.length_map]
    show (Ld.which _ (Ld.drain q _ t).1.es).length = _
    rw [hd.lk]
    simp [heldL]
set_option maxRecDepth 100000 in
set_option maxHeartbeats 8000000 in
theorem law_ends (w : World) (p : Option Addr) (cap : Nat) (Lo : List Op) (task : Int) (hL : OpsIn w p cap Lo) : Calls Try.prog 7 #[.slice p Lo.length cap, .int .i64 task] w (still w (.bool true)) := by
  unfold still
  have MA := Lib.hid (made_any w p cap Lo hL)
  unfold madePost at MA
  have AW := Lib.hid awake_any
  unfold still at AW
  have LC := Lib.hid (plays_lc (Lo.take (min Lo.length 100)) inv0 lc0)
  generalize Ld.plays Ld.new (Lo.take (min Lo.length 100)) = t1 at MA LC
  clear hL
  go_enter Try.func7, Try.ntmps7
  go_wp2_with fail
  refine MA.out.mono ?_
  rintro e w1 ⟨rfl, own1, hM1⟩
  have HM1 := Lib.hid hM1
  obtain ⟨L1, hL1⟩ := hM1.ow.rep
  have A := Lib.hid (held_any hL1 hM1.inv.ok task)
  unfold heldPost at A
  rcases held_cases hM1.inv.ok task with ⟨hk0, he⟩ | h2
  · rw [he] at A
    simp only at A
    clear hM1 hL1 he MA
    go_wp2_with fail
    refine A.out.mono ?_
    rintro e w2 ⟨pv, cv, rfl, hv1, hv2, hT⟩
    have HB2 : Hid (Below w.heap.size w w2) := Lib.hid (HM1.out.ow.bel.trans (hT.2.mono HM1.out.ow.bel.size))
    clear hT A
    simp only [List.length_nil] at *
    have k1 : task < 1 ∨ 64 < task := by unfold Ld.knows at hk0; simp at hk0; omega
    have k2 : decide (task < 1) = true ∨ (decide (task < 1) = false ∧ decide (64 < task) = true) := by simp; omega
    rcases k2 with k2 | ⟨k2, k3⟩
    · clear k1 hk0
      go_wp2_with fail
      refine (AW.out _).mono ?_
      rintro e w3 ⟨rfl, hb⟩
      have HW3 : Hid (Below w.heap.size w w3) := Lib.hid (HB2.out.trans (hb.mono HB2.out.size))
      clear hb
      go_wp2
      go_ret
      exact ⟨rfl, HW3.out⟩
    · clear k1 hk0
      go_wp2_with fail
      refine (AW.out _).mono ?_
      rintro e w3 ⟨rfl, hb⟩
      have HW3 : Hid (Below w.heap.size w w3) := Lib.hid (HB2.out.trans (hb.mono HB2.out.size))
      clear hb
      go_wp2
      go_ret
      exact ⟨rfl, HW3.out⟩
  · obtain ⟨q, rfl, q1, q2⟩ : ∃ q : Nat, task = (q : Int) ∧ 1 ≤ q ∧ q ≤ 64 := by
      rcases h2 with ⟨q, h, h1, h3, _⟩ | ⟨q, _, _, h, h1, h3, _⟩
      · exact ⟨q, h, h1, h3⟩
      · exact ⟨q, h, h1, h3⟩
    have A := Lib.hid (held_ok hL1 hM1.inv.ok q1 q2)
    unfold heldPost at A
    simp only at A
    rw [show (t1.hs q).map (Ld.whatOf t1) = heldL t1 q from rfl] at A
    clear hM1 hL1 h2 MA
    go_wp2_with fail
    refine A.out.mono ?_
    rintro e w2 ⟨pv, cv, rfl, hv1, hv2, hT⟩
    have HM2 := Lib.hid (HM1.out.below hT.2)
    have HH2 := Lib.hid (numa_open HM1.out hT)
    have hHl : (heldL t1 q).length ≤ 40 := by unfold heldL; rw [List.length_map]; exact HM1.out.inv.n40 q
    obtain ⟨H, hH⟩ : ∃ H, H = heldL t1 q := ⟨_, rfl⟩
    have HHE := Lib.hid hH
    rw [← hH] at HH2 hHl ⊢
    clear hT A HM1 hH
    obtain ⟨i0, hi, hz0, hz1, hz2⟩ := info_parts info36
    have HI := Lib.hid hi; have HZ0 := Lib.hid hz0; have HZ1 := Lib.hid hz1; have HZ2 := Lib.hid hz2
    have hml : (2000000 : Nat) ≤ maxLen := by decide
    have HML := Lib.hid hml
    clear hi hz0 hz1 hz2 hml
    go_wp2_with fail
    go_loopw [8, 9] (fun u v wr => ∃ (m : Nat) (po : Option Addr) (co : Nat) (vs : List Value), m ≤ 64 ∧ v = .int .i64 ((m : Int) + 1) ∧ u = .slice po vs.length co ∧ Hid (MdR w wr w.heap.size t1 own1) ∧ Hid (NumA w wr own1 (.slice pv H.length cv) H) ∧ Hid (Oth w wr own1 (.slice po vs.length co) vs t1 m)) (fun _ v _ => 65 - (intOf v).toNat)
    case atStart => exact ⟨0, none, 0, [], by omega, rfl, rfl, HM2, HH2, Lib.hid ⟨World.ownsRow_nil _ _ _ _, rfl, fun i hi => by omega, by simp [Value.ownBlock]⟩⟩
    case round =>
      obtain ⟨m, po, co, vs, hm, rfl, rfl, HM, HH, HO⟩ := hrel
      clear HM2 HH2
      by_cases hm2 : m < 64
      · have hm3 : decide ((m : Int) + 1 ≤ 64) = true := by simp; omega
        obtain ⟨L1, hL1⟩ := HM.out.ow.rep
        have A := Lib.hid (held_ok hL1 HM.out.inv.ok (k := m + 1) (by omega) (by omega))
        unfold heldPost at A
        simp only at A
        rw [show (t1.hs (m + 1)).map (Ld.whatOf t1) = heldL t1 (m + 1) from rfl, show (((m + 1 : Nat)) : Int) = (m : Int) + 1 by omega] at A
        have hvl : vs.length = m := HO.out.len
        have HVL := Lib.hid hvl
        have hrow := HO.out.row
        rw [hvl] at hrow ⊢
        clear hL1 hvl
        go_wp2_with fail
        refine A.out.mono ?_
        rintro e w4 ⟨px, cx, rfl, hx1, hx2, hT⟩
        have HM4 := Lib.hid (HM.out.below hT.2)
        have HH4 := Lib.hid (HH.out.below hT.2)
        have HO4 := Lib.hid (HO.out.below hT.2)
        have HX4 := Lib.hid (numa_open HM.out hT)
        have hrow4 := HO4.out.row
        rw [HVL.out] at hrow4
        have HROW4 := Lib.hid hrow4
        have hz4 : w.heap.size ≤ w4.heap.size := HM4.out.ow.bel.size
        have t2 : m + 1 ≤ maxLen := by have := HML.out; omega
        obtain ⟨lx, hlx⟩ : ∃ lx, lx = (heldL t1 (m + 1)).length := ⟨_, rfl⟩
        have HLX := Lib.hid hlx
        rw [← hlx]
        clear hT A hrow hrow4 HM HH HO hlx
        go_wp2_with (at_builtin; refine wpList_append_own_at _ (by rfl) (.tmp 54) (.tmp 56) 49 (by rfl) w.heap.size 36 i0 (.slice none 0 0) 1 24 Try.underlying49 HI.out HZ0.out HZ1.out HZ2.out (by rfl) (by decide) (.slice po m co) m vs (by rfl) (HROW4.out.alloc _) ⟨w4.heap.size, 0, none⟩ 1 1 [.slice px lx cx] (by rfl) (by rfl) (cell_one_new _ _ _) (by simp [Value.oneCell']) t2 (by omega) (by simp; omega) ?_)
        intro v5 w5 hown5 hG5 _ hat5
        rw [HLX.out] at hown5
        have HO4' := HO4.out
        rw [HVL.out] at HO4'
        obtain ⟨hM5, hO5, hH5, g5, k5, rfl⟩ := oth_app HM4.out HO4' HVL.out.symm HH4.out HX4.out (one w4 _) hG5 hown5 (by simpa using hat5)
        have HM5 := Lib.hid hM5
        have HO5 := Lib.hid hO5
        have HH5 := Lib.hid hH5
        clear hown5 hG5 hat5 HO4' hM5 hO5 hH5
        go_wp2
        go_roundw
        case rel => exact ⟨m + 1, some ⟨g5, 0, none⟩, k5, _, by omega, by go_num, rfl, HM5, HH5, HO5⟩
        case measure => simp [intOf]; omega
      · obtain rfl : m = 64 := by omega
        have hvl64 : vs.length = 64 := HO.out.len
        rw [hvl64] at HO ⊢
        clear hvl64
        obtain ⟨f1, f2, f3, f4, f5, f6⟩ := end_facts HM.out.inv LC.out q1 q2
        have LK := Lib.hid HM.out.leaks
        unfold numsPost at LK
        have F3 := Lib.hid f3
        have F4 := Lib.hid f4
        have F5 := Lib.hid f5
        have hD1 : (ints (Ld.which (fun e => e.lk) t1.es)).length ≤ 400 := by
          have := which_le (fun e => e.lk) t1.es
          have := HM.out.inv.n400
          simp only [ints, List.length_map]; omega
        generalize ints (Ld.which (fun e => e.lk) t1.es) = D1 at *
        go_wp2_with fail
        refine LK.out.mono ?_
        rintro e w4 ⟨p4, c4, rfl, h41, h42, hT4⟩
        have HM4 := Lib.hid (HM.out.below hT4.2)
        have HH4 := Lib.hid (HH.out.below hT4.2)
        have HO4 := Lib.hid (HO.out.below hT4.2)
        have EN : Hid (Calls Try.prog 15 #[ptr w.heap.size, .int .i64 (q : Int)] w4 (endPost w4 own1 w.heap.size (Ld.end_ t1 (q : Int)))) := Lib.hid (by
          obtain ⟨L, hL⟩ := HM4.out.ow.rep
          exact end_any hL HM4.out.inv.ok q)
        have F1 := Lib.hid f1
        have F2 := Lib.hid f2
        have F6 := Lib.hid f6
        clear hT4 LK HM HH HO f1 f2 f3 f4 f5 f6
        go_wp2_with fail
        refine EN.out.mono ?_
        intro e w5 hE
        obtain ⟨p5, c5, own3, he, hM5, hk5, hF5, hrow5, hout5⟩ := HM4.out.ended hE
        rw [F1.out, F2.out, ← HHE.out, List.length_reverse] at he
        rw [F2.out, ← HHE.out] at hrow5 hout5
        have hrow5' := hrow5
        rw [List.length_reverse] at hrow5' hout5
        have RV := Lib.hid (rev_row w5 H.reverse (by simp; omega) hrow5)
        rw [List.length_reverse, List.reverse_reverse] at RV
        subst he
        have HM5 := Lib.hid hM5
        have HK5 := Lib.hid hk5
        have HF5 := Lib.hid hF5
        have HR5 := Lib.hid hrow5'
        have HU5 := Lib.hid hout5
        clear hE hM5 hk5 hF5 hrow5 hrow5' hout5 EN
        have hF6 := F6.out
        rw [← HHE.out] at hF6
        generalize (Ld.end_ t1 (q : Int)).1 = t3 at *
        go_wp2_with fail
        refine RV.out.mono ?_
        rintro e w6 ⟨rfl, hrow6, hF6'⟩
        have hFt : Fr (fun k => own1 k ≠ none) w4 w6 := HF5.out.thenL hF6' (fun x hx => .inr (HR5.out.lt x hx).1)
        have HM6 := Lib.hid (HM5.out.fr hF6' (fun k hk => HU5.out k hk) (fun k hk => Nat.le_trans HM4.out.ow.bel.size (HR5.out.lt k hk).1))
        have HO6 := Lib.hid (HO4.out.gone hFt HK5.out)
        have HH6 := Lib.hid (HH4.out.gone hFt HK5.out)
        have HX6 : Hid (NumA w w6 own3 (.slice p5 H.length c5) H) := Lib.hid ⟨owns_base hrow6 HM4.out.ow.bel.size, HU5.out⟩
        have LK := Lib.hid HM6.out.leaks
        unfold numsPost at LK
        have hD3 : (ints (Ld.which (fun e => e.lk) t3.es)).length ≤ 400 := by
          have := which_le (fun e => e.lk) t3.es
          have := HM6.out.inv.n400
          simp only [ints, List.length_map]; omega
        have HLK : Hid (∀ x ∈ ints (Ld.which (fun e => e.lk) t3.es), (ints (Ld.which (fun e => e.cr) t3.es)).contains x = false) := Lib.hid fun x hx => lk_not_cr F3.out hx
        have HSN : Hid (0 < (ints (Ld.which (fun e => e.lk) t3.es)).length → Ld.sound t3 = false) := Lib.hid fun h => sound_lk (by simpa [ints] using h)
        generalize ints (Ld.which (fun e => e.lk) t3.es) = D3 at *
        clear hrow6 hF6' hFt RV HM4 HO4 HH4 HM5 HK5 HF5 HR5 HU5 F6 F2 F1
        go_wp2_with fail
        refine LK.out.mono ?_
        rintro e w7 ⟨p7, c7, rfl, h71, h72, hT7⟩
        have HM7 := Lib.hid (HM6.out.below hT7.2)
        have HO7 := Lib.hid (HO6.out.below hT7.2)
        have EQ := Lib.hid (equalI_any w7 p5 pv c5 cv H H (by omega) (by omega) (nums_at (HX6.out.below hT7.2).1) (nums_at (HH6.out.below hT7.2).1))
        unfold still at EQ
        rw [beq_self_eq_true] at EQ
        have HT7 := Lib.hid (numa_open HM6.out hT7)
        clear hT7 LK HM6 HO6 HH6 HX6
        have HF6 := Lib.hid hF6
        have e6 : IntKind.i64.wrap ((D1.length : Int) + (H.length : Int)) = (D3.length : Int) := by rw [IntWalk.i64_in _ (by omega)]; omega
        have e7 : (D1.length : Int) + (H.length : Int) = (D3.length : Int) := by omega
        clear hF6
        go_wp2_with fail
        refine EQ.out.mono ?_
        rintro e w8 ⟨rfl, hb8⟩
        have HM8 := Lib.hid (HM7.out.below hb8)
        have HO8 := Lib.hid (HO7.out.below hb8)
        have HT8 := Lib.hid (HT7.out.below hb8)
        clear hb8 EQ HM7 HO7 HT7
        have hcases : H.length = 0 ∨ 0 < H.length := by omega
        rcases hcases with h0 | h0
        · have j1 : decide ((0 : Int) < (H.length : Int)) = false := decide_eq_false (by omega)
          have j2 : decide (0 < H.length) = false := decide_eq_false (by omega)
          have j3 : ¬ ((0 : Int) < (H.length : Int)) := by omega
          clear h0
          obtain ⟨w9, hw9⟩ : ∃ w9, w9 = w8 := ⟨_, rfl⟩
          rw [← hw9] at HM8 HO8 HT8 ⊢
          have HM9 := HM8; have HO9 := HO8; have HT9 := HT8
          clear hw9 HM8 HO8 HT8
          go_wp2_with fail
          go_loopw [99] (fun v wr => ∃ j : Nat, j ≤ D3.length ∧ v = .int .i64 (j : Int) ∧ Hid (Below w9.heap.size w9 wr)) (fun v _ => D3.length - (intOf v).toNat)
          case atStart => exact ⟨0, Nat.zero_le _, rfl, Lib.hid (Below.refl _ _)⟩
          case round =>
            obtain ⟨j, hj, rfl, HBE⟩ := hrel
            have HM10 := Lib.hid (HM9.out.below HBE.out)
            by_cases hjl : j < D3.length
            · obtain ⟨x, hx⟩ : ∃ x, D3[j]? = some x := ⟨_, List.getElem?_eq_getElem hjl⟩
              have HNC := Lib.hid (HLK.out x (List.mem_of_getElem? hx))
              obtain ⟨m2, hm2⟩ : ∃ m2, D3.length = m2 + 1 := ⟨D3.length - 1, by omega⟩
              have hrow := (HT9.out.below HBE.out).1
              rw [hm2] at hrow
              obtain ⟨g, cap2, hpe⟩ := ownsRow_succ hrow
              cases hpe
              have cg : wr.cell? ⟨g, j, none⟩ = some (.int .i64 x) := by
                have := hrow.cells (g := g) rfl j (.int .i64 x) (by rw [List.getElem?_map, hx]; rfl)
                rw [add_off, Nat.zero_add] at this
                exact this
              have dg := World.block_lt_of_cell? _ _ cg
              have CA : Hid (Calls Try.prog 20 #[ptr w.heap.size] wr (numsPost wr (ints (Ld.which (fun e => e.cr) t3.es)))) := Lib.hid (by
                obtain ⟨L, hL⟩ := HM10.out.ow.rep
                exact crossed_any hL (by have := HM10.out.inv.n400; omega))
              unfold numsPost at CA
              have hCl : (ints (Ld.which (fun e => e.cr) t3.es)).length ≤ 400 := by
                have := which_le (fun e => e.cr) t3.es
                have := HM10.out.inv.n400
                simp only [ints, List.length_map]; omega
              generalize ints (Ld.which (fun e => e.cr) t3.es) = C at *
              have j5 : (j : Int) < (D3.length : Int) := by omega
              clear hm2 hrow hx
              go_wp2_with fail
              refine CA.out.mono ?_
              rintro e w10 ⟨p10, c10, rfl, hc1, hc2, hT10⟩
              have CT := Lib.hid (contains_row w10 C x (by omega) hT10.1)
              rw [HNC.out] at CT
              have HB10 := Lib.hid (HBE.out.trans (hT10.2.mono HBE.out.size))
              clear hT10 CA cg
              go_wp2_with fail
              refine CT.out.mono ?_
              rintro e w11 ⟨rfl, rfl⟩
              go_wp2
              go_roundw
              case rel => exact ⟨j + 1, by omega, by go_num, HB10⟩
              case measure => simp [intOf]; omega
            · obtain rfl : j = D3.length := by omega
              have HO10 := Lib.hid (HO9.out.below HBE.out)
              clear HM9 HO9 HT9
              go_wp2_with fail
              have HM11 := Lib.hid (HM10.out)
              clear HM10
              go_loopw [17] (fun v wr => ∃ m : Nat, m ≤ 64 ∧ v = .int .i64 ((m : Int) + 1) ∧ Hid (MdR w wr w.heap.size t3 own3) ∧ Hid (Oth w wr own3 (.slice po 64 co) vs t1 64)) (fun v _ => 65 - (intOf v).toNat)
              case atStart => exact ⟨0, by omega, rfl, HM11, HO10⟩
              case round =>
                obtain ⟨m, hm, rfl, HM, HO⟩ := hrel
                clear HM11 HO10
                by_cases hm2 : m < 64
                · have hm3 : decide ((m : Int) + 1 ≤ 64) = true := decide_eq_true (by omega)
                  obtain ⟨L1, hL1⟩ := HM.out.ow.rep
                  have A := Lib.hid (held_ok hL1 HM.out.inv.ok (k := m + 1) (by omega) (by omega))
                  unfold heldPost at A
                  simp only at A
                  rw [show (t3.hs (m + 1)).map (Ld.whatOf t3) = heldL t3 (m + 1) from rfl, show (((m + 1 : Nat)) : Int) = (m : Int) + 1 by omega] at A
                  clear hL1
                  by_cases hq : m + 1 = q
                  · have hz : heldL t3 (m + 1) = [] := by rw [hq]; exact F5.out
                    rw [hz] at A
                    have b1 : ((m : Int) + 1 == (q : Int)) = true := by simp; omega
                    have b2 : ((m : Int) + 1 != (q : Int)) = false := by
                      simp
                      omega
                    simp only [List.length_nil] at A
                    clear hz hq
                    go_wp2_with fail
                    refine A.out.mono ?_
                    rintro e w12 ⟨px, cx, rfl, hx1, hx2, hT⟩
                    have HM12 := Lib.hid (HM.out.below hT.2)
                    have HO12 := Lib.hid (HO.out.below hT.2)
                    simp only [List.length_nil] at *
                    clear hT A HM HO
                    go_wp2
                    go_roundw
                    case rel => exact ⟨m + 1, by omega, by go_num, HM12, HO12⟩
                    case measure => simp [intOf]; omega
                  · have hz : heldL t3 (m + 1) = heldL t1 (m + 1) := F4.out (m + 1) hq
                    rw [hz] at A
                    have b1 : ((m : Int) + 1 == (q : Int)) = false := by simp; omega
                    have b2 : ((m : Int) + 1 != (q : Int)) = true := by simp; omega
                    obtain ⟨pm, cm, hv3, hn3⟩ := HO.out.each m hm2
                    have hvl : vs.length = 64 := HO.out.len
                    have HVL := Lib.hid hvl
                    have hl40 : (heldL t1 (m + 1)).length ≤ 40 := by
                      rw [← hz]; unfold heldL; rw [List.length_map]; exact HM.out.inv.n40 (m + 1)
                    have HN3 := Lib.hid hn3
                    have HV3 := Lib.hid hv3
                    generalize heldL t1 (m + 1) = X at *
                    clear hz hq hn3 hv3 hvl
                    go_wp2_with fail
                    refine A.out.mono ?_
                    rintro e w12 ⟨px, cx, rfl, hx1, hx2, hT⟩
                    have HM12 := Lib.hid (HM.out.below hT.2)
                    have HO12 := Lib.hid (HO.out.below hT.2)
                    have EQ := Lib.hid (equalI_any w12 px pm cx cm X X (by omega) (by omega) (nums_at hT.1) (nums_at (HN3.out.below hT.2).1))
                    unfold still at EQ
                    rw [beq_self_eq_true] at EQ
                    have hrow := HO12.out.row
                    rw [HVL.out] at hrow
                    obtain ⟨g, cap2, hpe⟩ := ownsRow_succ hrow
                    cases hpe
                    have cg : w12.cell? ⟨g, m, none⟩ = some (.slice pm X.length cm) := by
                      have := hrow.cells (g := g) rfl m (.slice pm X.length cm) HV3.out
                      rw [add_off, Nat.zero_add] at this
                      exact this
                    have dg := World.block_lt_of_cell? _ _ cg
                    have k1 : IntKind.i64.wrap ((m : Int) + 1 - 1) = (m : Int) := by rw [IntWalk.i64_in _ (by omega)]; omega
                    have k2 : (m : Int) + 1 - 1 = (m : Int) := by omega
                    have k3 : IntKind.i64.wrap (m : Int) = (m : Int) := IntWalk.i64_in _ (by omega)
                    have k4 : (m : Int) < 64 := by omega
                    clear hT A HM HO hrow HN3 HV3
                    go_wp2_with fail
                    refine EQ.out.mono ?_
                    rintro e w13 ⟨rfl, hb13⟩
                    have HM13 := Lib.hid (HM12.out.below hb13)
                    have HO13 := Lib.hid (HO12.out.below hb13)
                    clear hb13 EQ HM12 HO12 cg
                    go_wp2
                    go_roundw
                    case rel => exact ⟨m + 1, by omega, by go_num, HM13, HO13⟩
                    case measure => simp [intOf]; omega
                · obtain rfl : m = 64 := by omega
                  obtain ⟨f1, f2, -, -, -, -⟩ := end_facts HM.out.inv F3.out q1 q2
                  rw [F5.out] at f2
                  have EN : Hid (Calls Try.prog 15 #[ptr w.heap.size, .int .i64 (q : Int)] wr (endPost wr own3 w.heap.size (Ld.end_ t3 (q : Int)))) := Lib.hid (by
                    obtain ⟨L, hL⟩ := HM.out.ow.rep
                    exact end_any hL HM.out.inv.ok q)
                  have F1 := Lib.hid f1
                  have F2 := Lib.hid f2
                  clear f1 f2
                  go_wp2_with fail
                  refine EN.out.mono ?_
                  intro e w12 hE
                  obtain ⟨p12, c12, own4, he, hM12, -, -, -, -⟩ := HM.out.ended hE
                  rw [F1.out, F2.out] at he
                  simp only [List.reverse_nil, List.length_nil] at he
                  subst he
                  have HB12 : Hid (Below w.heap.size w w12) := Lib.hid hM12.ow.bel
                  clear hE hM12 EN
                  go_wp2_with fail
                  refine (AW.out _).mono ?_
                  rintro e w14 ⟨rfl, hb⟩
                  have HW14 : Hid (Below w.heap.size w w14) := Lib.hid (HB12.out.trans (hb.mono HB12.out.size))
                  clear hb
                  go_wp2
                  go_ret
                  exact ⟨rfl, HW14.out⟩
        · have j1 : decide ((0 : Int) < (H.length : Int)) = true := decide_eq_true (by omega)
          have j2 : decide (0 < H.length) = true := decide_eq_true (by omega)
          have SN : Hid (Calls Try.prog 22 #[ptr w.heap.size] w8 (still w8 (.bool false))) := Lib.hid (by
            obtain ⟨L, hL⟩ := HM8.out.ow.rep
            have := sound_any hL (by have := HM8.out.inv.n400; omega)
            rw [HSN.out (by have := HF6.out; omega)] at this
            exact this)
          unfold still at SN
          clear h0
          go_wp2_with fail
          refine SN.out.mono ?_
          rintro e w9 ⟨rfl, hb9⟩
          have HM9 := Lib.hid (HM8.out.below hb9)
          have HO9 := Lib.hid (HO8.out.below hb9)
          have HT9 := Lib.hid (HT8.out.below hb9)
          clear hb9 SN HM8 HO8 HT8
          go_wp2_with fail
          go_loopw [99] (fun v wr => ∃ j : Nat, j ≤ D3.length ∧ v = .int .i64 (j : Int) ∧ Hid (Below w9.heap.size w9 wr)) (fun v _ => D3.length - (intOf v).toNat)
          case atStart => exact ⟨0, Nat.zero_le _, rfl, Lib.hid (Below.refl _ _)⟩
          case round =>
            obtain ⟨j, hj, rfl, HBE⟩ := hrel
            have HM10 := Lib.hid (HM9.out.below HBE.out)
            by_cases hjl : j < D3.length
            · obtain ⟨x, hx⟩ : ∃ x, D3[j]? = some x := ⟨_, List.getElem?_eq_getElem hjl⟩
              have HNC := Lib.hid (HLK.out x (List.mem_of_getElem? hx))
              obtain ⟨m2, hm2⟩ : ∃ m2, D3.length = m2 + 1 := ⟨D3.length - 1, by omega⟩
              have hrow := (HT9.out.below HBE.out).1
              rw [hm2] at hrow
              obtain ⟨g, cap2, hpe⟩ := ownsRow_succ hrow
              cases hpe
              have cg : wr.cell? ⟨g, j, none⟩ = some (.int .i64 x) := by
                have := hrow.cells (g := g) rfl j (.int .i64 x) (by rw [List.getElem?_map, hx]; rfl)
                rw [add_off, Nat.zero_add] at this
                exact this
              have dg := World.block_lt_of_cell? _ _ cg
              have CA : Hid (Calls Try.prog 20 #[ptr w.heap.size] wr (numsPost wr (ints (Ld.which (fun e => e.cr) t3.es)))) := Lib.hid (by
                obtain ⟨L, hL⟩ := HM10.out.ow.rep
                exact crossed_any hL (by have := HM10.out.inv.n400; omega))
              unfold numsPost at CA
              have hCl : (ints (Ld.which (fun e => e.cr) t3.es)).length ≤ 400 := by
                have := which_le (fun e => e.cr) t3.es
                have := HM10.out.inv.n400
                simp only [ints, List.length_map]; omega
              generalize ints (Ld.which (fun e => e.cr) t3.es) = C at *
              have j5 : (j : Int) < (D3.length : Int) := by omega
              clear hm2 hrow hx
              go_wp2_with fail
              refine CA.out.mono ?_
              rintro e w10 ⟨p10, c10, rfl, hc1, hc2, hT10⟩
              have CT := Lib.hid (contains_row w10 C x (by omega) hT10.1)
              rw [HNC.out] at CT
              have HB10 := Lib.hid (HBE.out.trans (hT10.2.mono HBE.out.size))
              clear hT10 CA cg
              go_wp2_with fail
              refine CT.out.mono ?_
              rintro e w11 ⟨rfl, rfl⟩
              go_wp2
              go_roundw
              case rel => exact ⟨j + 1, by omega, by go_num, HB10⟩
              case measure => simp [intOf]; omega
            · obtain rfl : j = D3.length := by omega
              have HO10 := Lib.hid (HO9.out.below HBE.out)
              clear HM9 HO9 HT9
              go_wp2_with fail
              have HM11 := Lib.hid (HM10.out)
              clear HM10
              go_loopw [17] (fun v wr => ∃ m : Nat, m ≤ 64 ∧ v = .int .i64 ((m : Int) + 1) ∧ Hid (MdR w wr w.heap.size t3 own3) ∧ Hid (Oth w wr own3 (.slice po 64 co) vs t1 64)) (fun v _ => 65 - (intOf v).toNat)
              case atStart => exact ⟨0, by omega, rfl, HM11, HO10⟩
              case round =>
                obtain ⟨m, hm, rfl, HM, HO⟩ := hrel
                clear HM11 HO10
                by_cases hm2 : m < 64
                · have hm3 : decide ((m : Int) + 1 ≤ 64) = true := decide_eq_true (by omega)
                  obtain ⟨L1, hL1⟩ := HM.out.ow.rep
                  have A := Lib.hid (held_ok hL1 HM.out.inv.ok (k := m + 1) (by omega) (by omega))
                  unfold heldPost at A
                  simp only at A
                  rw [show (t3.hs (m + 1)).map (Ld.whatOf t3) = heldL t3 (m + 1) from rfl, show (((m + 1 : Nat)) : Int) = (m : Int) + 1 by omega] at A
                  clear hL1
                  by_cases hq : m + 1 = q
                  · have hz : heldL t3 (m + 1) = [] := by rw [hq]; exact F5.out
                    rw [hz] at A
                    have b1 : ((m : Int) + 1 == (q : Int)) = true := by simp; omega
                    have b2 : ((m : Int) + 1 != (q : Int)) = false := by
                      simp
                      omega
                    simp only [List.length_nil] at A
                    clear hz hq
                    go_wp2_with fail
                    refine A.out.mono ?_
                    rintro e w12 ⟨px, cx, rfl, hx1, hx2, hT⟩
                    have HM12 := Lib.hid (HM.out.below hT.2)
                    have HO12 := Lib.hid (HO.out.below hT.2)
                    simp only [List.length_nil] at *
                    clear hT A HM HO
                    go_wp2
                    go_roundw
                    case rel => exact ⟨m + 1, by omega, by go_num, HM12, HO12⟩
                    case measure => simp [intOf]; omega
                  · have hz : heldL t3 (m + 1) = heldL t1 (m + 1) := F4.out (m + 1) hq
                    rw [hz] at A
                    have b1 : ((m : Int) + 1 == (q : Int)) = false := by simp; omega
                    have b2 : ((m : Int) + 1 != (q : Int)) = true := by simp; omega
                    obtain ⟨pm, cm, hv3, hn3⟩ := HO.out.each m hm2
                    have hvl : vs.length = 64 := HO.out.len
                    have HVL := Lib.hid hvl
                    have hl40 : (heldL t1 (m + 1)).length ≤ 40 := by
                      rw [← hz]; unfold heldL; rw [List.length_map]; exact HM.out.inv.n40 (m + 1)
                    have HN3 := Lib.hid hn3
                    have HV3 := Lib.hid hv3
                    generalize heldL t1 (m + 1) = X at *
                    clear hz hq hn3 hv3 hvl
                    go_wp2_with fail
                    refine A.out.mono ?_
                    rintro e w12 ⟨px, cx, rfl, hx1, hx2, hT⟩
                    have HM12 := Lib.hid (HM.out.below hT.2)
                    have HO12 := Lib.hid (HO.out.below hT.2)
                    have EQ := Lib.hid (equalI_any w12 px pm cx cm X X (by omega) (by omega) (nums_at hT.1) (nums_at (HN3.out.below hT.2).1))
                    unfold still at EQ
                    rw [beq_self_eq_true] at EQ
                    have hrow := HO12.out.row
                    rw [HVL.out] at hrow
                    obtain ⟨g, cap2, hpe⟩ := ownsRow_succ hrow
                    cases hpe
                    have cg : w12.cell? ⟨g, m, none⟩ = some (.slice pm X.length cm) := by
                      have := hrow.cells (g := g) rfl m (.slice pm X.length cm) HV3.out
                      rw [add_off, Nat.zero_add] at this
                      exact this
                    have dg := World.block_lt_of_cell? _ _ cg
                    have k1 : IntKind.i64.wrap ((m : Int) + 1 - 1) = (m : Int) := by rw [IntWalk.i64_in _ (by omega)]; omega
                    have k2 : (m : Int) + 1 - 1 = (m : Int) := by omega
                    have k3 : IntKind.i64.wrap (m : Int) = (m : Int) := IntWalk.i64_in _ (by omega)
                    have k4 : (m : Int) < 64 := by omega
                    clear hT A HM HO hrow HN3 HV3
                    go_wp2_with fail
                    refine EQ.out.mono ?_
                    rintro e w13 ⟨rfl, hb13⟩
                    have HM13 := Lib.hid (HM12.out.below hb13)
                    have HO13 := Lib.hid (HO12.out.below hb13)
                    clear hb13 EQ HM12 HO12 cg
                    go_wp2
                    go_roundw
                    case rel => exact ⟨m + 1, by omega, by go_num, HM13, HO13⟩
                    case measure => simp [intOf]; omega
                · obtain rfl : m = 64 := by omega
                  obtain ⟨f1, f2, -, -, -, -⟩ := end_facts HM.out.inv F3.out q1 q2
                  rw [F5.out] at f2
                  have EN : Hid (Calls Try.prog 15 #[ptr w.heap.size, .int .i64 (q : Int)] wr (endPost wr own3 w.heap.size (Ld.end_ t3 (q : Int)))) := Lib.hid (by
                    obtain ⟨L, hL⟩ := HM.out.ow.rep
                    exact end_any hL HM.out.inv.ok q)
                  have F1 := Lib.hid f1
                  have F2 := Lib.hid f2
                  clear f1 f2
                  go_wp2_with fail
                  refine EN.out.mono ?_
                  intro e w12 hE
                  obtain ⟨p12, c12, own4, he, hM12, -, -, -, -⟩ := HM.out.ended hE
                  rw [F1.out, F2.out] at he
                  simp only [List.reverse_nil, List.length_nil] at he
                  subst he
                  have HB12 : Hid (Below w.heap.size w w12) := Lib.hid hM12.ow.bel
                  clear hE hM12 EN
                  go_wp2_with fail
                  refine (AW.out _).mono ?_
                  rintro e w14 ⟨rfl, hb⟩
                  have HW14 : Hid (Below w.heap.size w w14) := Lib.hid (HB12.out.trans (hb.mono HB12.out.size))
                  clear hb
                  go_wp2
                  go_ret
                  exact ⟨rfl, HW14.out⟩
theorem law_ends_c (v : Value) (x : Int) (w : World) (h : OpsArg w v) (_ : (Lit.int .i64 x).wf = true) : Calls Try.prog 7 #[v, .int .i64 x] w fun e w' => e = .returned (.bool true) ∧ Below w.heap.size w w' := by
  obtain ⟨p, cap, L, rfl, hL⟩ := h
  exact law_ends w p cap L x hL
end Go.Proofs.Ytapbghkoijmjeaa
