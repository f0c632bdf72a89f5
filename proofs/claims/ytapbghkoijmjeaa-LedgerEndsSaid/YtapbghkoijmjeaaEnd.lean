/- What End does. -/
import Derived.Test.YtapbghkoijmjeaaRls
namespace Go.Proofs.Ytapbghkoijmjeaa
set_option linter.unusedVariables false
set_option linter.unusedSimpArgs false
open Go.RowKit Go.Shelf
/-- A ledger behind a call that also makes a list of numbers. -/
def endPost (w : World) (own : Own) (lb : Nat) (r : Ld.T × List Int × Int) (e : Ending) (w' : World) : Prop :=
  ∃ p cap own' L', e = .returned (.tuple #[.slice p r.2.1.length cap, .int .i64 r.2.2]) ∧ r.2.1.length ≤ cap ∧ cap ≤ maxLen ∧ Rep w' own' lb L' r.1 ∧ (∀ x, x < w.heap.size → own' x = own x) ∧ Fr (fun x => own x ≠ none) w w' ∧
    w'.ownsRow w.heap.size 3 1 (.slice p r.2.1.length cap) r.2.1.length (r.2.1.map (Value.int .i64)) ∧ (∀ b, (Value.slice p r.2.1.length cap).ownBlock = some b → own' b = none)
def lenOf : Value → Nat
  | .slice _ n _ => n
  | _ => 0
theorem drain_cons (k a : Nat) (r : List Nat) (t : Ld.T) : Ld.drain k (a :: r) t = ((Ld.drain k r (Ld.relE (Ld.setH t k r.reverse) a Ld.leak)).1, Ld.whatOf t a :: (Ld.drain k r (Ld.relE (Ld.setH t k r.reverse) a Ld.leak)).2) := rfl
section
variable {w : World} {own : Own} {lb : Nat} {L : Lay} {t : Ld.T}
set_option maxRecDepth 100000 in
theorem end_bad (q : Addr) (w : World) (task : Int) (hb : Ld.knows task = false) : Calls Try.prog 15 #[.pointer (some q), .int .i64 task] w (same w (.tuple #[.slice none 0 0, .int .i64 2])) := by
  unfold same
  have KN := Lib.hid (knows_no task q w hb)
  unfold same at KN
  clear hb
  go_enter Try.func15, Try.ntmps15
  go_wp2_with fail
  refine KN.out.mono ?_
  rintro e w2 ⟨rfl, rfl⟩
  go_wp2
  go_ret2
  exact ⟨rfl, rfl⟩
set_option maxRecDepth 100000 in
theorem end_nil (w : World) (task : Int) : Calls Try.prog 15 #[.pointer none, .int .i64 task] w (same w (.tuple #[.slice none 0 0, .int .i64 2])) := by
  unfold same
  have KN := Lib.hid (knows_nil task w)
  unfold same at KN
  go_enter Try.func15, Try.ntmps15
  go_wp2_with fail
  refine KN.out.mono ?_
  rintro e w2 ⟨rfl, rfl⟩
  go_wp2
  go_ret2
  exact ⟨rfl, rfl⟩
/-- What is left to be released, and what has been said so far. -/
structure EndR (w : World) (own : Own) (lb k : Nat) (fin : Ld.T × List Int) (n : Nat) (r : List Nat) (out : List Int) (v : Value) (wr : World) (own' : Own) (L' : Lay) (t' : Ld.T) : Prop where
  rep : Rep wr own' lb L' t'
  hs : t'.hs k = r.reverse
  cnt : out.length + r.length = n
  fin1 : (Ld.drain k r t').1 = fin.1
  fin2 : out ++ (Ld.drain k r t').2 = fin.2
  keep : ∀ x, x < w.heap.size → own' x = own x
  fr : Fr (fun x => own x ≠ none) w wr
  row : wr.ownsRow w.heap.size 3 1 v out.length (out.map (Value.int .i64))
  non : ∀ b, v.ownBlock = some b → own' b = none
  lt : ∀ a ∈ r, a < t'.es.length
  esl : t'.es.length ≤ 400
  tm : t'.time ≤ 800 + out.length

theorem relE_es (t : Ld.T) (a : Nat) (f : Ld.En → Ld.En) : (Ld.relE t a f).es.length = t.es.length := by
  unfold Ld.relE
  split
  · rfl
  · simp
theorem relE_time (t : Ld.T) (a : Nat) (f : Ld.En → Ld.En) : (Ld.relE t a f).time ≤ t.time + 1 := by
  unfold Ld.relE
  split
  · omega
  · simp
theorem relE_hs (t : Ld.T) (a : Nat) (f : Ld.En → Ld.En) : (Ld.relE t a f).hs = t.hs := by
  unfold Ld.relE
  split <;> rfl
theorem owns_gone {W W' : World} {own : Own} {base : Nat} {v : Value} {n : Nat} {xs : List Value} (h : W.ownsRow base 3 1 v n xs) (hF : Fr (fun x => own x ≠ none) W W') (hn : ∀ b, v.ownBlock = some b → own b = none) : W'.ownsRow base 3 1 v n xs :=
  owns_fr h hF fun b e hs => hs (hn b e)
set_option maxRecDepth 100000 in
set_option maxHeartbeats 4000000 in
theorem end_ok (h : Rep w own lb L t) (hk : Ld.Ok t) {k : Nat} (h1 : 1 ≤ k) (h2 : k ≤ 64) :
    Calls Try.prog 15 #[ptr lb, .int .i64 (k : Int)] w (endPost w own lb ((Ld.drain k (t.hs k).reverse t).1, (Ld.drain k (t.hs k).reverse t).2, 0)) := by
  have KN := Lib.hid (knows_yes (k : Int) ⟨lb, 0, none⟩ w (by omega) (by omega))
  unfold same at KN
  have hlt := h.blk.lt
  have hn40 := hk.n40 k
  obtain ⟨fin, hfin⟩ : ∃ fin, fin = Ld.drain k (t.hs k).reverse t := ⟨_, rfl⟩
  obtain ⟨n, hn⟩ : ∃ n, n = (t.hs k).length := ⟨_, rfl⟩
  have HS : Hid (EndR w own lb k fin n (t.hs k).reverse [] (.slice none 0 0) w own L t) := Lib.hid ⟨h, by simp, by simp [hn], by rw [hfin], by rw [hfin]; rfl, fun _ _ => rfl, Fr.refl _ _, World.ownsRow_nil _ _ _ _, by simp [Value.ownBlock], fun a ha => hk.lt k a (by simpa using ha), hk.n400, by have := hk.time; omega⟩
  rw [← hfin]
  rw [← hn] at hn40
  unfold endPost
  have kk1 : (0 : Int) ≤ (k : Int) := by omega
  have kk2 : (k : Int) < 65 := by omega
  have kk3 : ((k : Int)).toNat = k := by omega
  obtain ⟨i0, hi, hz0, hz1, hz2⟩ := info_parts info3
  have HI := Lib.hid hi; have HZ0 := Lib.hid hz0; have HZ1 := Lib.hid hz1; have HZ2 := Lib.hid hz2
  have hml : (2000000 : Nat) ≤ maxLen := by decide
  clear h hk hfin hn hi hz0 hz1 hz2
  go_enter Try.func15, Try.ntmps15
  go_wp2_with fail
  refine KN.out.mono ?_
  rintro e w2 ⟨rfl, rfl⟩
  go_wp2_with fail
  go_loopw [6] (fun v wr => ∃ (r : List Nat) (out : List Int) (pv : Option Addr) (m cv : Nat) (own' : Own) (L' : Lay) (t' : Ld.T), v = .slice pv m cv ∧ m ≤ cv ∧ cv ≤ maxLen ∧ m ≤ n ∧ Hid (m = out.length) ∧ Hid (EndR w own lb k fin n r out (.slice pv m cv) wr own' L' t')) (fun v _ => n - lenOf v)
  case atStart => exact ⟨_, [], none, 0, 0, own, L, t, rfl, Nat.le_refl _, Nat.zero_le _, Nat.zero_le _, Lib.hid rfl, HS⟩
  case round =>
    obtain ⟨r, out, pv, m, cv, own', L', t', rfl, hv1, hv2, hmn, HM, HR⟩ := hrel
    have P := Lib.hid (pop_any HR.out.rep (k := k) (by omega) (by rw [HR.out.hs, List.length_reverse]; have := HR.out.cnt; omega))
    unfold popPost at P
    have hlr := HR.out.rep.blk.lt
    clear HS
    go_wp2_with fail
    refine P.out.mono ?_
    rintro e w3 (⟨hnil, rfl, hG⟩ | ⟨l, a, hl, rfl, hG⟩)
    · have hr0 : r = [] := by have := HR.out.hs; rw [hnil] at this; simpa using this.symm
      have HRES : Hid (∃ own'' L'', Rep w3 own'' lb L'' fin.1 ∧ (∀ x, x < w.heap.size → own'' x = own x) ∧ Fr (fun x => own x ≠ none) w w3 ∧ w3.ownsRow w.heap.size 3 1 (.slice pv fin.2.length cv) fin.2.length (fin.2.map (Value.int .i64)) ∧ (∀ b, (Value.slice pv fin.2.length cv).ownBlock = some b → own'' b = none) ∧ m = fin.2.length) := Lib.hid (by
        subst hr0
        obtain ⟨o3, L3, hR3, hk3, hF3⟩ := hG
        have e1 : t' = fin.1 := HR.out.fin1
        have e2 : out = fin.2 := by have := HR.out.fin2; simpa [Ld.drain] using this
        have e3 : m = fin.2.length := by rw [← e2]; exact HM.out
        rw [← e3]
        refine ⟨o3, L3, e1 ▸ hR3, fun x hx => (hk3 x (Nat.lt_of_lt_of_le hx HR.out.fr.size)).trans (HR.out.keep x hx), HR.out.fr.thenL hF3 fun x hx => ?_, ?_, fun b hb => ?_, rfl⟩
        · by_cases hx2 : x < w.heap.size
          · rw [HR.out.keep x hx2] at hx; exact .inl hx
          · exact .inr (by omega)
        · have := owns_gone HR.out.row hF3 HR.out.non
          rw [e2, ← e3] at this; exact this
        · rw [hk3 b (HR.out.row.lt b hb).2]; exact HR.out.non b hb)
      clear hnil hr0 hG P
      go_wp2
      go_ret2
      obtain ⟨o3, L3, hR3, hk3, hF3, hrow3, hn3, e3⟩ := HRES.out
      exact ⟨pv, cv, o3, L3, by rw [← e3]; rfl, by rw [← e3]; exact hv1, hv2, hR3, hk3, hF3, hrow3, hn3⟩
    · have hrr : r = a :: l.reverse := by
        have := HR.out.hs
        rw [hl] at this
        have h5 := congrArg List.reverse this
        simpa using h5.symm
      have hal : a < t'.es.length := HR.out.lt a (by rw [hrr]; simp)
      obtain ⟨e0, he0⟩ : ∃ e0, t'.es[a]? = some e0 := ⟨_, List.getElem?_eq_getElem hal⟩
      obtain ⟨o3, L3, hR3, hk3, hF3⟩ := hG
      have htm : t'.time ≤ 1000000 := by have := HR.out.tm; have := HR.out.cnt; omega
      have RL := Lib.hid (release_any hR3 (a := a) (e := e0) he0 htm (by have := HR.out.esl; show t'.es.length ≤ 1000000; omega))
      have lb3 := hR3.blk.lt
      have HE0 := Lib.hid he0
      have HR3 := Lib.hid hR3
      have HK3 := Lib.hid hk3
      have HF3 := Lib.hid hF3
      have HRR := Lib.hid hrr
      have HNN : Hid (∀ b, (Value.slice pv m cv).ownBlock = some b → o3 b = none) := Lib.hid fun b hb => (hk3 b (HR.out.row.lt b hb).2).trans (HR.out.non b hb)
      obtain ⟨q, hq⟩ : ∃ q, q = t'.es.length := ⟨_, rfl⟩
      have HQ := Lib.hid hq
      have hq4 : q ≤ 400 := by rw [hq]; exact HR.out.esl
      rw [← hq] at hal
      have a1 : (a : Int) < (q : Int) := by omega
      have a2 : (0 : Int) ≤ (a : Int) := by omega
      have a3 : ((a : Int)).toNat = a := by omega
      clear hl hrr he0 hR3 hk3 hF3 htm P hq hlr
      go_wp2_with fail
      refine RL.out.mono ?_
      rintro e w4 ⟨rfl, hR4, hF4⟩
      obtain ⟨q4, cap4, ee4, g41, g42, g43⟩ := hR4.eform
      have hm4 : (Ld.relT (Ld.setH t' k l) a e0).es.length = q := by simp [Ld.relT, Ld.setH, HQ.out]
      obtain ⟨g, rfl, og4, hg4, hz4, hcell4⟩ := g43 (by omega)
      have b1 := hR4.blk.cell 1 _ rfl
      rw [ee4, hm4] at b1
      rw [hm4] at ee4
      have he4 : (Ld.relT (Ld.setH t' k l) a e0).es[a]? = some { e0 with to_ := ((t'.time + 1 : Nat) : Int) } := by
        show (t'.es.set a _)[a]? = _
        rw [List.getElem?_set_self (by rw [← HQ.out]; exact hal)]; rfl
      have q5 := hcell4 a _ he4 5 _ rfl
      have z5 := hz4 (a * 6 + 5)
      obtain ⟨R5, F5⟩ := set_rep hR4 (e' := { e0 with to_ := ((t'.time + 1 : Nat) : Int), lk := true }) he4 ee4 (j := 5) (by omega) (v := .bool true) rfl
      have hgl : g ≠ lb := fun e' => by rw [e', hR4.mine] at og4; simp at og4
      have hRES : Rep (w4.setCell ⟨g, a * 6 + 5, none⟩ (.bool true)) o3 lb L3 (Ld.relE (Ld.setH t' k l) a Ld.leak) := by
        have e5 : Ld.relE (Ld.setH t' k l) a Ld.leak = { Ld.relT (Ld.setH t' k l) a e0 with es := (Ld.relT (Ld.setH t' k l) a e0).es.set a { e0 with to_ := ((t'.time + 1 : Nat) : Int), lk := true } } := by
          unfold Ld.relE
          rw [show (Ld.setH t' k l).es[a]? = some e0 from HE0.out]
          simp [Ld.relT, Ld.setH, Ld.leak]
        rw [e5]; exact R5
      have HR5 := Lib.hid hRES
      have HF5 : Hid (Fr (fun x => o3 x ≠ none) w3 (w4.setCell ⟨g, a * 6 + 5, none⟩ (.bool true))) := Lib.hid (hF4.trans F5)
      have b15 : (w4.setCell ⟨g, a * 6 + 5, none⟩ (.bool true)).cell? ⟨lb, 1, none⟩ = some (.slice (some ⟨g, 0, none⟩) q cap4) := (World.cell?_setCell_other _ _ _ _ (by intro e; have := congrArg Addr.block e; simp at this; omega)).trans b1
      have q05 : (w4.setCell ⟨g, a * 6 + 5, none⟩ (.bool true)).cell? ⟨g, a * 6, none⟩ = some (.int .i64 e0.what) := (World.cell?_setCell_other _ _ _ _ (by intro e; have := congrArg Addr.off e; simp at this)).trans (hcell4 a _ he4 0 _ rfl)
      have lb4 := hR4.blk.lt
      have hrow4 : (w4.setCell ⟨g, a * 6 + 5, none⟩ (.bool true)).ownsRow w.heap.size 3 1 (.slice pv m cv) m (out.map (Value.int .i64)) := by
        have h6 := owns_gone (HR.out.row) HF3.out HR.out.non
        have h7 := owns_gone h6 HF5.out HNN.out
        rw [HM.out]; rw [HM.out] at h7; exact h7
      have HROW := Lib.hid hrow4
      have hsz5 : w.heap.size ≤ (w4.setCell ⟨g, a * 6 + 5, none⟩ (.bool true)).heap.size := Nat.le_trans HR.out.fr.size (Nat.le_trans HF3.out.size HF5.out.size)
      have t1 : m + 1 ≤ maxLen := by have := HR.out.cnt; have := HM.out; omega
      have hmn1 : m + 1 ≤ n := by have := HR.out.cnt; rw [HRR.out] at this; have := HM.out; simp at *; omega
      have l5 : lb < (w4.setCell ⟨g, a * 6 + 5, none⟩ (.bool true)).heap.size := hRES.blk.lt
      have lg5 : g < (w4.setCell ⟨g, a * 6 + 5, none⟩ (.bool true)).heap.size := by have := F5.size; omega
      clear hR4 hF4 ee4 g41 g43 hcell4 he4 hz4 og4 R5 F5 hm4 RL hRES hrow4
      have hss : (w4.setCell ⟨g, a * 6 + 5, none⟩ (.bool true)).heap.size = w4.heap.size := by simp [World.setCell]
      have HCN : Hid (∀ j u, [Value.int .i64 e0.what][j]? = some u → ((w4.setCell ⟨g, a * 6 + 5, none⟩ (.bool true)).alloc (.cells #[.int .i64 e0.what] 3)).cell? ((⟨w4.heap.size, 0, none⟩ : Addr).add j) = some u) := Lib.hid (by
        have := cell_one_new (w4.setCell ⟨g, a * 6 + 5, none⟩ (.bool true)) (.int .i64 e0.what) 3
        rwa [hss] at this)
      have hsz6 : w.heap.size ≤ w4.heap.size := by have := hsz5; rwa [hss] at this
      clear hss
      go_wp2_with (at_builtin; refine wpList_append_own_at _ (by rfl) (.tmp 36) (.tmp 46) 36 (by rfl) w.heap.size 3 i0 (.int .i64 0) 1 8 Try.underlying36 HI.out HZ0.out HZ1.out HZ2.out (by rfl) (by decide) (.slice pv m cv) m _ (by rfl) (HROW.out.alloc _) ⟨w4.heap.size, 0, none⟩ 1 1 [.int .i64 e0.what] (by rfl) (by rfl) HCN.out (by simp [Value.oneCell']) t1 (by omega) (by simp [World.setCell]; omega) ?_)
      intro v6 w6 hown6 hG6 _ hat6
      obtain ⟨g6, cp6, rfl⟩ := ownsRow_succ hown6
      have hcp6 : m + 1 ≤ cp6 ∧ cp6 ≤ maxLen := by
        rcases hown6.2 with ⟨e, _⟩ | ⟨g', cap', cur, e, h1, h2, h3, h4, h5⟩
        · cases e
        · cases e; exact ⟨h3, h4⟩
      have HCP := Lib.hid hcp6
      have HE6 : Hid (EndR w own lb k fin n l.reverse (out ++ [e0.what]) (.slice (some ⟨g6, 0, none⟩) (m + 1) cp6) w6 o3 L3 (Ld.relE (Ld.setH t' k l) a Ld.leak)) := Lib.hid (by
        have hF6 : Fr (fun x => (Value.slice pv m cv).ownBlock = some x) (w4.setCell ⟨g, a * 6 + 5, none⟩ (.bool true)) w6 := Fr.grown ((Fr.refl _ _).alloc _) hG6 (fun x e => .inl e) (owns_cells (HROW.out.alloc _))
        have hw0 : ∀ b, (Value.slice pv m cv).ownBlock = some b → w.heap.size ≤ b := fun b hb => (HROW.out.lt b hb).1
        have e2 : Ld.drain k r t' = ((Ld.drain k l.reverse (Ld.relE (Ld.setH t' k l) a Ld.leak)).1, e0.what :: (Ld.drain k l.reverse (Ld.relE (Ld.setH t' k l) a Ld.leak)).2) := by
          rw [HRR.out, drain_cons, List.reverse_reverse]
          unfold Ld.whatOf
          rw [HE0.out]
        have h1 := HR.out.fin1
        have h2 := HR.out.fin2
        rw [e2] at h1 h2
        have h5 : (out ++ [e0.what]).length = m + 1 := by simp; exact HM.out.symm
        refine ⟨HR5.out.fr hF6 HNN.out, by rw [relE_hs]; simp [Ld.setH], ?_, h1, by rw [← h2]; simp, fun x hx => (HK3.out x (Nat.lt_of_lt_of_le hx HR.out.fr.size)).trans (HR.out.keep x hx), ?_, ?_, fun b hb => ?_, fun x hx => ?_, ?_, ?_⟩
        · have := HR.out.cnt; rw [HRR.out] at this; simp at this ⊢; omega
        · have hA : Fr (fun x => own x ≠ none) w (w4.setCell ⟨g, a * 6 + 5, none⟩ (.bool true)) := by
            refine (HR.out.fr.thenL HF3.out fun x hx => ?_).thenL HF5.out fun x hx => ?_
            · by_cases hx2 : x < w.heap.size
              · rw [HR.out.keep x hx2] at hx; exact .inl hx
              · exact .inr (by omega)
            · by_cases hx2 : x < w.heap.size
              · rw [HK3.out x (Nat.lt_of_lt_of_le hx2 HR.out.fr.size), HR.out.keep x hx2] at hx; exact .inl hx
              · exact .inr (by omega)
          exact hA.thenL hF6 fun x hx => .inr (hw0 x hx)
        · rw [h5, List.map_append]; exact hown6
        · rcases hat6 with h6 | h6
          · rw [h6] at hb; exact HNN.out b hb
          · rw [h6] at hb
            have : b = ((w4.setCell ⟨g, a * 6 + 5, none⟩ (.bool true)).alloc (.cells #[.int .i64 e0.what] 3)).heap.size := by simpa using hb.symm
            exact HR5.out.not_own (by rw [this]; simp)
        · rw [relE_es]
          exact HR.out.lt x (by rw [HRR.out]; simp at hx ⊢; exact .inr hx)
        · rw [relE_es]; exact HR.out.esl
        · have := relE_time (Ld.setH t' k l) a Ld.leak
          have h7 : (Ld.setH t' k l).time = t'.time := rfl
          have := HR.out.tm
          rw [h5]; have := HM.out; omega)
      clear hown6 hG6 hat6 t1 hcp6 b15 q05 q5 z5 b1
      go_wp2
      go_roundw
      case rel => exact ⟨l.reverse, out ++ [e0.what], some ⟨g6, 0, none⟩, m + 1, cp6, o3, L3, _, rfl, HCP.out.1, HCP.out.2, hmn1, Lib.hid (by simp; exact HM.out), HE6⟩
      case measure => simp [lenOf]; omega
theorem end_any (h : Rep w own lb L t) (hk : Ld.Ok t) (task : Int) : Calls Try.prog 15 #[ptr lb, .int .i64 task] w (endPost w own lb (Ld.end_ t task)) := by
  unfold Ld.end_
  by_cases hb : Ld.knows task = false
  · rw [if_pos hb]
    refine (end_bad ⟨lb, 0, none⟩ w task hb).mono ?_
    rintro e w' ⟨rfl, rfl⟩
    exact ⟨none, 0, own, L, rfl, Nat.le_refl _, Nat.zero_le _, h, fun _ _ => rfl, Fr.refl _ _, World.ownsRow_nil _ _ _ _, by simp [Value.ownBlock]⟩
  · rw [if_neg hb]
    obtain ⟨k, rfl, h1, h2⟩ := knows_nat (by simpa using hb)
    rw [show ((k : Int)).toNat = k by omega]
    exact end_ok h hk h1 h2
end
end Go.Proofs.Ytapbghkoijmjeaa
