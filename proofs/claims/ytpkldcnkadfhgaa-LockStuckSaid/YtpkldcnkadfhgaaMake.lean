/- What Make does. -/
import Derived.Test.YtpkldcnkadfhgaaHold
import Derived.Deep.RegionLaw
namespace Go.Proofs.Ytpkldcnkadfhgaa
open Go.RowKit

theorem Lk.TOk.make {t : Lk.T} (h : Lk.TOk t) {n : Int} (h1 : 1 ≤ n) (h16 : n ≤ 16) (hl : t.ls.length < 16) : Lk.TOk (Lk.make t n) := by
  have key : ∀ (j : Nat) x, (t.ls ++ [(⟨n, n, [], []⟩ : Lk.L)])[j]? = some x → t.ls[j]? = some x ∨ x = ⟨n, n, [], []⟩ := by
    intro j x hj
    by_cases hjl : j < t.ls.length
    · rw [List.getElem?_append_left hjl] at hj; exact .inl hj
    · rw [List.getElem?_append_right (by omega)] at hj
      have := List.mem_of_getElem? hj
      right; simpa using this
  unfold Lk.make
  refine ⟨by simp; omega, fun x hx => ?_, h.asc, fun j x q hj hq => ?_, fun q v hq => ?_⟩
  · rcases List.mem_append.1 hx with hx | hx
    · exact h.ok x hx
    · simp at hx; subst hx
      exact ⟨h1, h16, by simp only; omega, by simp [Lk.sum], List.Pairwise.nil, by simp, by simp, by simp, fun _ => rfl⟩
  · rcases key j x hj with hj | rfl
    · exact h.w1 j x q hj hq
    · simp at hq
  · obtain ⟨j, x, hv, hj, hqx⟩ := h.w2 q v hq
    exact ⟨j, x, hv, by rw [List.getElem?_append_left (List.getElem?_eq_some_iff.1 hj).1]; exact hj, hqx⟩

theorem make_end {w w5 : World} {bl : Blocks} {tb : Nat} {lv v' : Value} {wv : Nat → Value} {ls : List Nat} {t : Lk.T} {n : Int} {o : Obj}
    (hR : Rep w bl tb lv wv ls t) (hG : (((w.alloc (.map #[] 0)).alloc (.cells #[.int .i64 n, .int .i64 n, .map (some w.heap.size), .slice none 0 0] 82)).alloc o).grownBy w5 lv.ownBlock)
    (hrow : w5.ownsRow 0 78 1 v' (t.ls.length + 1) (ptrs ls ++ [.pointer (some ⟨w.heap.size + 1, 0, none⟩)]))
    (hat : v'.ownBlock = lv.ownBlock ∨ v'.ownBlock = some (w.heap.size + 3)) (hok : Lk.TOk (Lk.make t n)) : Gone w bl tb (Lk.make t n) (w5.setCell ⟨tb, 0, none⟩ v') := by
  have hlen := hR.len
  have htb := hR.lt _ _ hR.hT
  have hF5 : Fr (fun x => lv.ownBlock = some x) w w5 := Fr.grown ((((Fr.refl _ _).alloc _).alloc _).alloc o) hG fun x e => .inl e
  have hF : Fr (fun x => lv.ownBlock = some x ∨ x = tb) w (w5.setCell ⟨tb, 0, none⟩ v') := Fr.set (hF5.widen fun x hx _ => .inl hx) (.inl (.inr rfl)) 0 v'
  have hs5 : w.heap.size + 3 ≤ w5.heap.size := by have := hG.size; simp at this; omega
  have off : ∀ r x, bl r = some x → r ≠ (0, 0) → r ≠ (1, 0) → ¬ (lv.ownBlock = some x ∨ x = tb) := fun r x e h0 h1 hx => by
    rcases hx with hx | hx
    · rw [hR.hV] at hx; exact h1 (hR.inj _ _ _ e hx)
    · exact h0 (hR.inj _ _ _ e (hx ▸ hR.hT))
  have hvl : lv.ownBlock ≠ some tb := fun e => by rw [hR.hV] at e; have := hR.inj _ _ _ e hR.hT; simp at this
  have hv't : v'.ownBlock ≠ some tb := by
    rcases hat with h | h
    · rw [h]; exact hvl
    · rw [h]; simp; omega
  have new_ne : ∀ b, w.heap.size ≤ b → b < w.heap.size + 3 → some b ≠ lv.ownBlock := fun b hb _ e => by
    rw [hR.hV] at e; have := hR.lt _ _ e.symm; omega
  have i1 : ∀ r r' k, put5 bl (1, 0) v'.ownBlock r = some k → put5 bl (1, 0) v'.ownBlock r' = some k → r = r' := put5_inj hR.inj fun k e r hr e' => by
    rcases hat with h | h
    · rw [h, hR.hV] at e; exact hr (hR.inj _ _ _ e' e)
    · rw [h] at e; cases e; have := hR.lt _ _ e'; omega
  have b1 : ∀ r k, put5 bl (1, 0) v'.ownBlock r = some k → k < w.heap.size ∨ k = w.heap.size + 3 := fun r k e => by
    by_cases hr : r = (1, 0)
    · subst hr; rw [put5_same] at e
      rcases hat with h | h
      · rw [h, hR.hV] at e; exact .inl (hR.lt _ _ e)
      · rw [h] at e; cases e; exact .inr rfl
    · rw [put5_other _ _ hr] at e; exact .inl (hR.lt _ _ e)
  have i2 := put5_inj i1 (r0 := (3, ls.length)) (x := some (w.heap.size + 1)) fun k e r _ e' => by cases e; have := b1 _ _ e'; omega
  have b2 : ∀ r k, put5 (put5 bl (1, 0) v'.ownBlock) (3, ls.length) (some (w.heap.size + 1)) r = some k → k < w.heap.size ∨ k = w.heap.size + 3 ∨ k = w.heap.size + 1 := fun r k e => by
    by_cases hr : r = (3, ls.length)
    · subst hr; rw [put5_same] at e; cases e; exact .inr (.inr rfl)
    · rw [put5_other _ _ hr] at e; rcases b1 _ _ e with h | h
      · exact .inl h
      · exact .inr (.inl h)
  have i3 := put5_inj i2 (r0 := (4, ls.length)) (x := some w.heap.size) fun k e r _ e' => by cases e; have := b2 _ _ e'; omega
  have b3 : ∀ r k, put5 (put5 (put5 bl (1, 0) v'.ownBlock) (3, ls.length) (some (w.heap.size + 1))) (4, ls.length) (some w.heap.size) r = some k → k < w.heap.size ∨ k = w.heap.size + 3 ∨ k = w.heap.size + 1 ∨ k = w.heap.size := fun r k e => by
    by_cases hr : r = (4, ls.length)
    · subst hr; rw [put5_same] at e; cases e; exact .inr (.inr (.inr rfl))
    · rw [put5_other _ _ hr] at e; rcases b2 _ _ e with h | h | h
      · exact .inl h
      · exact .inr (.inl h)
      · exact .inr (.inr (.inl h))
  have i4 := put5_inj i3 (r0 := (5, ls.length)) (x := none) fun k e => by cases e
  have hv'lt : ∀ k, v'.ownBlock = some k → k < w5.heap.size := fun k e => (hrow.lt k e).2
  -- the blocks of an old one
  have old : ∀ r, r ≠ (1, 0) → r ≠ (3, ls.length) → r ≠ (4, ls.length) → r ≠ (5, ls.length) → put5 (put5 (put5 (put5 bl (1, 0) v'.ownBlock) (3, ls.length) (some (w.heap.size + 1))) (4, ls.length) (some w.heap.size)) (5, ls.length) none r = bl r := fun r h1 h3 h4 h5 => by
    rw [put5_other _ _ h5, put5_other _ _ h4, put5_other _ _ h3, put5_other _ _ h1]
  have hMnew : MapIs w5 w.heap.size [] := by
    refine ((((MapIs.new w).alloc _).alloc o)).of_eq (hG.block w.heap.size (by simp; omega) (new_ne _ (Nat.le_refl _) (by omega)))
  have hBnew : Blk w5 (w.heap.size + 1) 4 (lG ⟨n, n, [], []⟩ w.heap.size (.slice none 0 0)) := by
    have h0 := Blk.new (w.alloc (.map #[] 0)) #[.int .i64 n, .int .i64 n, .map (some w.heap.size), .slice none 0 0] 82
    rw [World.size_alloc] at h0
    refine ((h0.alloc o).grown hG (new_ne _ (by omega) (by omega))).ext fun q hq => ?_
    have : q = 0 ∨ q = 1 ∨ q = 2 ∨ q = 3 := by simp at hq; omega
    rcases this with rfl | rfl | rfl | rfl <;> simp [lG]
  refine ⟨_, ⟨⟨v', fun j => if j = ls.length then .slice none 0 0 else wv j, ls ++ [w.heap.size + 1], ⟨i4, fun r k e => ?_, ?_, ?_, ?_, ?_, by simp [Lk.make, hlen], fun m e => ?_, fun e => ?_, fun j x e => ?_⟩⟩, hok⟩, fun r k e => ?_, ?_⟩
  · by_cases h5 : r = (5, ls.length)
    · subst h5; rw [put5_same] at e; cases e
    · rw [put5_other _ _ h5] at e
      have hss : (w5.setCell ⟨tb, 0, none⟩ v').heap.size = w5.heap.size := by simp [World.setCell]
      rw [hss]
      by_cases h1 : r = (1, 0)
      · subst h1; rw [put5_other _ _ (by simp), put5_other _ _ (by simp), put5_same] at e; exact hv'lt k e
      · rcases b3 _ _ e with h | h | h | h
        · omega
        · by_cases h4 : r = (4, ls.length)
          · subst h4; rw [put5_same] at e; cases e; omega
          · rw [put5_other _ _ h4] at e
            by_cases h3 : r = (3, ls.length)
            · subst h3; rw [put5_same] at e; cases e; omega
            · rw [put5_other _ _ h3, put5_other _ _ h1] at e; have := hR.lt _ _ e; omega
        · omega
        · omega
  · rw [old _ (by simp) (by simp) (by simp) (by simp)]; exact hR.hT
  · rw [put5_other _ _ (by simp), put5_other _ _ (by simp), put5_other _ _ (by simp), put5_same]
  · rw [old _ (by simp) (by simp) (by simp) (by simp)]
    refine ((hR.blk.fr hF5 (fun e => hvl e)).set (by omega : 0 < 2) v').ext fun q hq => ?_
    have : q = 0 ∨ q = 1 := by omega
    rcases this with rfl | rfl <;> simp [upd, tG]
  · have e1 : ptrs (ls ++ [w.heap.size + 1]) = ptrs ls ++ [.pointer (some ⟨w.heap.size + 1, 0, none⟩)] := by simp [ptrs]
    have e2 : (Lk.make t n).ls.length = t.ls.length + 1 := by simp [Lk.make]
    rw [e1, e2]
    exact owns_fr hrow (S := fun x => x = tb) (Fr.set (S := fun x => x = tb) (Fr.refl _ _) (.inl rfl) 0 v') fun k e e' => hv't (e' ▸ e)
  · rw [old _ (by simp) (by simp) (by simp) (by simp)] at e
    exact (hR.waits m e).fr hF (off _ _ e (by simp) (by simp))
  · rw [old _ (by simp) (by simp) (by simp) (by simp)] at e
    exact hR.waits0 e
  · by_cases hj : j < t.ls.length
    · have e' : t.ls[j]? = some x := by unfold Lk.make at e; simp only at e; rwa [List.getElem?_append_left hj] at e
      obtain ⟨lb, hb, h1, h2, h3, h4, h5⟩ := hR.lock j x e'
      have hjn : j ≠ ls.length := by omega
      have n3 : ((3, j) : Nat × Nat) ≠ (3, ls.length) := by simpa using hjn
      have n4 : ((4, j) : Nat × Nat) ≠ (4, ls.length) := by simpa using hjn
      have n5 : ((5, j) : Nat × Nat) ≠ (5, ls.length) := by simpa using hjn
      refine ⟨lb, hb, by rw [old _ (by simp) n3 (by simp) (by simp)]; exact h1, by rw [List.getElem?_append_left (by omega)]; exact h2, by rw [old _ (by simp) (by simp) n4 (by simp)]; exact h3, by rw [old _ (by simp) (by simp) (by simp) n5]; simpa [hjn] using h4, ?_⟩
      simp only [hjn, if_false]
      exact h5.fr hF (off _ _ h1 (by simp) (by simp)) (off _ _ h3 (by simp) (by simp)) fun k e => off (5, j) k (by rw [← h4]; exact e) (by simp) (by simp)
    · have hjl : j < (Lk.make t n).ls.length := (List.getElem?_eq_some_iff.1 e).1
      have hj2 : j = ls.length := by simp [Lk.make] at hjl; omega
      have ex : x = ⟨n, n, [], []⟩ := by
        unfold Lk.make at e; simp only at e
        rw [List.getElem?_append_right (by omega)] at e
        have := List.mem_of_getElem? e; simpa using this
      subst hj2 ex
      refine ⟨w.heap.size + 1, w.heap.size, by rw [put5_other _ _ (by simp), put5_other _ _ (by simp), put5_same], by simp, by rw [put5_other _ _ (by simp), put5_same], by rw [put5_same]; simp [Value.ownBlock], ?_⟩
      simp only [if_true]
      exact ⟨hBnew.set_other (by omega) _, hMnew.set_other (by omega) _, (Line.nil _)⟩
  · by_cases h5 : r = (5, ls.length)
    · subst h5; rw [put5_same] at e; cases e
    · rw [put5_other _ _ h5] at e
      by_cases h4 : r = (4, ls.length)
      · subst h4; rw [put5_same] at e; cases e; exact .inr (Nat.le_refl _)
      · rw [put5_other _ _ h4] at e
        by_cases h3 : r = (3, ls.length)
        · subst h3; rw [put5_same] at e; cases e; right; omega
        · rw [put5_other _ _ h3] at e
          rcases put5_keep (n := w.heap.size) (x := v'.ownBlock) (r0 := (1, 0)) (bl := bl) (by
            rcases hat with h | h
            · exact .inl (h.trans hR.hV)
            · exact .inr ⟨_, h, by omega⟩) r k e with h | h
          · exact .inl h
          · exact .inr h
  · exact hF.widen fun x hx _ => by
      rcases hx with hx | rfl
      · exact ⟨(1, 0), hR.hV ▸ hx⟩
      · exact ⟨_, hR.hT⟩

set_option maxRecDepth 100000 in
theorem newPermits_any (n : Int) (w : World) : Calls Try.prog 37 #[.int .i64 n] w fun e w' =>
    e = .returned (.pointer (some ⟨w.heap.size + 1, 0, none⟩)) ∧ (w.alloc (.map #[] 0)).alloc (.cells #[.int .i64 n, .int .i64 n, .map (some w.heap.size), .slice none 0 0] 82) = w' := by
  have hmm := @run_makeMap Try.prog
  go_enter Try.func37, Try.ntmps37
  go_wp2
  go_ret
  exact ⟨by simp, rfl⟩
theorem info78 : (Try.prog.info? 78).map (fun i => (i.zero, i.size, i.bytes)) = some (some (.pointer none), 1, 8) := by kernel_rfl
theorem ownsRow_succ {w : World} {base : Nat} {e : TypeId} {size : Nat} {v : Value} {n : Nat} {xs : List Value} (h : w.ownsRow base e size v (n + 1) xs) : ∃ g cap, v = .slice (some ⟨g, 0, none⟩) (n + 1) cap := by
  rcases h.2 with ⟨_, h0⟩ | ⟨g, cap, cur, e, _⟩
  · omega
  · exact ⟨g, cap, e⟩

/-- append in a region that draws its order. -/
theorem wp_append_at {P : Program} (w : World) {o : Oper} {a : Act} {K : Act → World → Prop} {Q : Exit → Act → World → Prop} (s x : Operand) (t : TypeId)
    (ho : o.op = .call { callee := .builtin .append, args := #[s, x], argTypes := #[t, t] })
    (base : Nat) (e : TypeId) (i : TypeInfo) (z : Value) (size bytes : Nat) (ht : P.underlying t = some (.slice e)) (hi : P.info? e = some i) (hz : i.zero = some z)
    (hsize : i.size = size) (hby : i.bytes = bytes) (hzs : z.cells.size = size) (hsz : 0 < size)
    (v : Value) (n : Nat) (xs : List Value) (hs : a.eval s = v) (hown : w.ownsRow base e size v n xs)
    (ad : Addr) (m c : Nat) (news : List Value) (hx : a.eval x = .slice (some ad) m c) (hl : news.length = m * size) (hnews : ∀ j u, news[j]? = some u → w.cell? (ad.add j) = some u) (h1 : ∀ u ∈ news, u.oneCell' = true)
    (h63 : n + m ≤ maxLen) (hbytes : (n + m) * bytes ≤ 140737488355328) (hbase : base ≤ w.heap.size)
    (h : ∀ v' w', w'.ownsRow base e size v' (n + m) (xs ++ news) → w.grownBy w' v.ownBlock → (v'.ownBlock = v.ownBlock ∨ v'.ownBlock = some w.heap.size) → K (a.put o.dst v') w') : o.wp P a w K Q := by
  obtain ⟨v', w', hr, h2, h3, h4, h5⟩ := run_append_own_at (P := P) w base t o.type e i z size bytes ht hi hz hsize hby hzs hsz v n xs hown ad m c news hl hnews h1 h63 hbytes hbase
  unfold Oper.wp execOp
  simp only [ho, resolve, invoke, builtin, Sem.run_bind, Sem.run_pure, Result.andThen_ok, List.map_toArray, List.map_cons, List.map_nil, hs, hx, hr]
  exact h v' w' h2 h3 h5

def makePost (w : World) (bl : Blocks) (tb : Nat) (t : Lk.T) (n : Int) (e : Ending) (w' : World) : Prop :=
  if n < 1 ∨ 16 < n then e = .returned (.tuple #[.int .i64 0, .int .i64 2]) ∧ Below w.heap.size w w'
  else if t.ls.length = 16 then e = .returned (.tuple #[.int .i64 0, .int .i64 5]) ∧ Below w.heap.size w w'
  else e = .returned (.tuple #[.int .i64 (t.ls.length + 1 : Nat), .int .i64 0]) ∧ Gone w bl tb (Lk.make t n) w'

set_option maxRecDepth 100000 in
set_option maxHeartbeats 2000000 in
theorem make_any (bl : Blocks) (tb : Nat) (t : Lk.T) (n : Int) (w : World) (h : Tab w bl tb t) :
    Calls Try.prog 14 #[.pointer (some ⟨tb, 0, none⟩), .int .i64 n] w (makePost w bl tb t n) := by
  unfold makePost
  by_cases h1 : n < 1
  · simp only [h1, true_or, if_true]
    go_enter Try.func14, Try.ntmps14
    go_wp2
    go_ret2
    exact ⟨rfl, Below.refl _ _⟩
  · by_cases h2 : 16 < n
    · simp only [h2, or_true, if_true]
      go_enter Try.func14, Try.ntmps14
      go_wp2
      go_ret2
      exact ⟨rfl, Below.refl _ _⟩
    · simp only [h1, h2, or_self, if_false]
      have hok := h.ok
      obtain ⟨⟨lv, wv, ls, hR⟩, -⟩ := h
      have hn16 := hok.n16
      obtain ⟨q, cap, rfl, hcap, hcm, -⟩ := hR.form
      have hlen := hR.len
      have c0 : w.cell? ⟨tb, 0, none⟩ = some (.slice q ls.length cap) := hR.blk.cell 0 (by omega)
      have z0 := hR.blk.fz 0
      have htb := hR.lt _ _ hR.hT
      by_cases h16 : t.ls.length = 16
      · simp only [h16, if_true]
        rw [hlen, h16] at c0
        clear hR
        go_enter Try.func14, Try.ntmps14
        go_wp2
        go_ret2
        exact ⟨rfl, Below.refl _ _⟩
      · simp only [h16, if_false]
        have hl16 : ((t.ls.length : Int) ≥ 16) = False := by simp; omega
        have hlt : t.ls.length < 16 := by omega
        obtain ⟨i0, hi, hz0, hz1, hz2⟩ := info_parts info78
        have HI := Lib.hid hi; have HZ0 := Lib.hid hz0; have HZ1 := Lib.hid hz1; have HZ2 := Lib.hid hz2
        have HOK := Lib.hid (hok.make (n := n) (by omega) (by omega) hlt)
        have HROW : Hid (∀ k, (w.drewN k).ownsRow 0 78 1 (.slice q ls.length cap) t.ls.length (ptrs ls)) := Lib.hid fun k => hR.row
        have HR := Lib.hid hR
        have HP := Lib.hid (newPermits_any n)
        have KP : Hid (∀ o1 o2 o3, w.cell? ⟨tb, 0, none⟩ = some (.slice q t.ls.length cap) ∧ ((w.alloc o1).alloc o2).cell? ⟨tb, 0, none⟩ = some (.slice q t.ls.length cap) ∧ (((w.alloc o1).alloc o2).alloc o3).cell? ⟨tb, 0, none⟩ = some (.slice q t.ls.length cap)) := Lib.hid fun o1 o2 o3 => by
          have k1 := ((hR.blk.alloc o1).alloc o2).cell 0 (by omega)
          have k2 := (((hR.blk.alloc o1).alloc o2).alloc o3).cell 0 (by omega)
          rw [← hlen]; exact ⟨c0, k1, k2⟩
        have KF : Hid (∀ o1 o2 o3, (((w.alloc o1).alloc o2).alloc o3).frozen? ⟨tb, 0, none⟩ = false) := Lib.hid fun o1 o2 o3 => (((hR.blk.alloc o1).alloc o2).alloc o3).fz 0
        have HNE : Hid (some tb ≠ (Value.slice q t.ls.length cap).ownBlock) := Lib.hid fun e => hR.nev hR.hV hR.hT (by simp) (by rw [hlen]; exact e.symm)
        have KN : Hid (∀ (o1 o2 : Obj) (x : Value) j u, [x][j]? = some u → (((w.alloc o1).alloc o2).alloc (.cells #[x] 78)).cell? ((⟨w.heap.size + 2, 0, none⟩ : Addr).add j) = some u) := Lib.hid fun o1 o2 x => by
          have h := cell_one_new ((w.alloc o1).alloc o2) x 78
          rw [World.size_alloc, World.size_alloc] at h
          exact h
        have hml := maxLen_big
        rw [hlen] at c0 HROW HR
        clear hR hi hz0 hz1 hz2 hok hlen
        go_enter Try.func14, Try.ntmps14
        go_wp2_with fail
        have c0a := (KP.out (.map #[] 0) (.cells #[.int .i64 n, .int .i64 n, .map (some w.heap.size), .slice none 0 0] 82) (.cells #[.pointer (some ⟨w.heap.size + 1, 0, none⟩)] 78)).2.1
        have c0b := (KP.out (.map #[] 0) (.cells #[.int .i64 n, .int .i64 n, .map (some w.heap.size), .slice none 0 0] 82) (.cells #[.pointer (some ⟨w.heap.size + 1, 0, none⟩)] 78)).2.2
        go_region_law (first
            | (refine wp_append_at _ _ _ 65 (by rfl) 0 78 i0 (.pointer none) 1 8 Try.underlying65 HI.out HZ0.out HZ1.out HZ2.out (by rfl) (by decide) (.slice q t.ls.length cap) t.ls.length (ptrs ls) (by rfl) (by exact ((((HROW.out 0).alloc _).alloc _).alloc _)) ⟨w.heap.size + 2, 0, none⟩ 1 1 [.pointer (some ⟨w.heap.size + 1, 0, none⟩)] (by rfl) (by rfl) (by exact KN.out _ _ _) (by simp [Value.oneCell']) (by omega) (by omega) (by simp) ?_; intro v5 w5 hown5 hG5 hat5; have hc5 : w5.cell? ⟨tb, 0, none⟩ = some (.slice q t.ls.length cap) := (World.cell?_of_block (a := ⟨tb, 0, none⟩) (hG5.block tb (by simp; omega) HNE.out)).trans (by exact (KP.out _ _ _).2.2); have hz5 : w5.frozen? ⟨tb, 0, none⟩ = false := (World.frozen?_of_block (a := ⟨tb, 0, none⟩) (hG5.block tb (by simp; omega) HNE.out)).trans (by exact KF.out _ _ _); have hl5 : tb < w5.heap.size := (by have := hG5.size; simp at this; omega); obtain ⟨g5, cp5, rfl⟩ := ownsRow_succ hown5; have HO5 := Lib.hid hown5; have HG5 := Lib.hid hG5; have HA5 := Lib.hid hat5; clear hown5 hG5 hat5)
            | (go_simp; go_at_call 37; refine (HP.out _).mono ?_; rintro e w2 ⟨rfl, rfl⟩))
        all_goals clear c0a c0b c0
        all_goals go_wp2
        all_goals go_ret2
        all_goals refine ⟨by simp, make_end (o := .cells #[.pointer (some ⟨w.heap.size + 1, 0, none⟩)] 78) HR.out ⟨HG5.out.os, HG5.out.tape, HG5.out.output, HG5.out.size, HG5.out.block⟩ HO5.out ?_ HOK.out⟩
        all_goals exact HA5.out.imp id fun h => by rw [h]; simp
end Go.Proofs.Ytpkldcnkadfhgaa
