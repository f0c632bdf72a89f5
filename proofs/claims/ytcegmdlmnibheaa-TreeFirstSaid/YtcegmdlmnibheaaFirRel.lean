/- The first fault of each scope, told beside the tree. -/
import Derived.Test.YtcegmdlmnibheaaRun
namespace Go.Proofs.Ytcegmdlmnibheaa
set_option linter.unusedVariables false
set_option linter.unusedSimpArgs false
open Go.RowKit
def Tr.upd (g : Nat → Tr.F) (n : Nat) (f : Tr.F) : Nat → Tr.F := fun k => if k = n then f else g k
def Tr.want (fst blk : Nat → Tr.F) (m : Nat) : Tr.F := if (fst m).k = 0 ∧ (blk m).k = 2 then blk m else fst m
/-- What the first fault of a scope becomes when it gets one. -/
def Tr.gets (fst : Nat → Tr.F) (j : Nat) (f : Tr.F) : Nat → Tr.F := if (fst (j + 1)).k = 0 then Tr.upd fst (j + 1) f else fst
structure Fi (t : Tr.T) (fst blk : Nat → Tr.F) : Prop where
  at_ : ∀ (j : Nat) (y : Tr.Sc), t.ss[j]? = some y → fst (j + 1) = y.flt
  new : ∀ j, t.ss.length ≤ j → fst (j + 1) = Tr.f0
  nil : ∀ (j : Nat) (y : Tr.Sc), t.ss[j]? = some y → y.flt.k = 0 → y.flt = Tr.f0
  own : ∀ (i : Nat) (x : Tr.Tk) (j : Nat), t.ts[i]? = some x → some j ∈ x.op → ∃ y : Tr.Sc, t.ss[j]? = some y ∧ y.own = i
  lv : ∀ (i : Nat) (x : Tr.Tk), t.ts[i]? = some x → x.leav = true → ∃ (j : Nat) (y : Tr.Sc), x.op.getLast? = some (some j) ∧ t.ss[j]? = some y ∧ blk (j + 1) = x.left ∧ (x.left.k = 1 → y.flt.k ≠ 0) ∧ Tr.validB x.left = true
theorem valid_nil {f : Tr.F} (h : Tr.validB f = true) (hk : f.k = 0) : f = Tr.f0 := by
  obtain ⟨k, s⟩ := f
  simp only at hk
  subst hk
  unfold Tr.validB at h
  simp at h
  unfold Tr.f0
  congr 1
  have : s.data.toList = [] := by
    have e : s.toList = s.data.toList := by simp [ByteArray.toList_eq]
    rw [e] at h; exact h
  cases s with | mk d => 
    congr 1
    exact Array.toList_eq_nil_iff.1 this
theorem valid_cases {f : Tr.F} (h : Tr.validB f = true) : f.k = 0 ∨ f.k = 1 ∨ f.k = 2 := by
  unfold Tr.validB at h
  split at h
  · omega
  · split at h
    · omega
    · simp at h
section
variable {t t' : Tr.T} {fst blk : Nat → Tr.F}
theorem getlast_mem {α : Type} {l : List α} {a : α} (h : l.getLast? = some a) : a ∈ l := List.mem_of_getLast? h
/-- A task whose links are as before. -/
theorem Fi.keepT (h : Fi t fst blk) {i : Nat} {x x' : Tr.Tk} (hx : t.ts[i]? = some x) (ho : x'.op = x.op) (hl : x'.leav = x.leav) (hf : x'.left = x.left) : Fi (Tr.setT t i x') fst blk where
  at_ := h.at_
  new := h.new
  nil := h.nil
  own := fun k z j hz hj => by
    rcases set_at hz with ⟨rfl, rfl⟩ | ⟨-, hz'⟩
    · rw [ho] at hj; exact h.own _ x j hx hj
    · exact h.own k z j hz' hj
  lv := fun k z hz hv => by
    rcases set_at hz with ⟨rfl, rfl⟩ | ⟨-, hz'⟩
    · rw [ho, hf]; rw [hl] at hv; exact h.lv _ x hx hv
    · exact h.lv k z hz' hv
/-- A task that does not leave, with other links. -/
theorem Fi.links (h : Fi t fst blk) {i : Nat} {x' : Tr.Tk} (hl : x'.leav = false) (ho : ∀ j, some j ∈ x'.op → ∃ y, t.ss[j]? = some y ∧ y.own = i) : Fi (Tr.setT t i x') fst blk where
  at_ := h.at_
  new := h.new
  nil := h.nil
  own := fun k z j hz hj => by
    rcases set_at hz with ⟨rfl, rfl⟩ | ⟨-, hz'⟩
    · exact ho j hj
    · exact h.own k z j hz' hj
  lv := fun k z hz hv => by
    rcases set_at hz with ⟨rfl, rfl⟩ | ⟨-, hz'⟩
    · rw [hl] at hv; simp at hv
    · exact h.lv k z hz' hv
/-- A scope whose fault and owner are as before. -/
theorem Fi.keepS (h : Fi t fst blk) {j : Nat} {y y' : Tr.Sc} (hy : t.ss[j]? = some y) (hf : y'.flt = y.flt) (ho : y'.own = y.own) : Fi (Tr.setS t j y') fst blk where
  at_ := fun k z hz => by
    rcases set_at hz with ⟨rfl, rfl⟩ | ⟨-, hz'⟩
    · rw [hf]; exact h.at_ _ y hy
    · exact h.at_ k z hz'
  new := fun k hk => h.new k (by simpa [Tr.setS] using hk)
  nil := fun k z hz hk => by
    rcases set_at hz with ⟨rfl, rfl⟩ | ⟨-, hz'⟩
    · rw [hf] at hk ⊢; exact h.nil _ y hy hk
    · exact h.nil k z hz' hk
  own := fun k z i hz hi => by
    obtain ⟨u, hu, e⟩ := h.own k z i hz hi
    by_cases hij : i = j
    · subst hij
      rw [hy] at hu
      obtain rfl := Option.some.inj hu
      exact ⟨y', by simp [Tr.setS, (List.getElem?_eq_some_iff.1 hy).1], ho.trans e⟩
    · exact ⟨u, by simpa [Tr.setS, List.getElem?_set_ne (Ne.symm hij)] using hu, e⟩
  lv := fun k z hz hv => by
    obtain ⟨i, u, h1, hu, h3, h4, h5⟩ := h.lv k z hz hv
    by_cases hij : i = j
    · subst hij
      rw [hy] at hu
      obtain rfl := Option.some.inj hu
      exact ⟨i, y', h1, by simp [Tr.setS, (List.getElem?_eq_some_iff.1 hy).1], h3, by rw [hf]; exact h4, h5⟩
    · exact ⟨i, u, h1, by simpa [Tr.setS, List.getElem?_set_ne (Ne.symm hij)] using hu, h3, h4, h5⟩
/-- A scope gets a fault. -/
theorem Fi.take (h : Fi t fst blk) {j : Nat} {y : Tr.Sc} (hy : t.ss[j]? = some y) {f : Tr.F} (hf : f.k = 1) : Fi (Tr.take t j f) (Tr.gets fst j f) blk := by
  have hyl := (List.getElem?_eq_some_iff.1 hy).1
  unfold Tr.take Tr.gets
  rw [hy]
  simp only
  rw [h.at_ j y hy]
  unfold Tr.taken
  by_cases hk : y.flt.k = 0
  · rw [if_pos hk, if_pos hk]
    refine ⟨fun k z hz => ?_, fun k hk' => ?_, fun k z hz hz0 => ?_, fun k z i hz hi => ?_, fun k z hz hv => ?_⟩
    · rcases set_at hz with ⟨rfl, rfl⟩ | ⟨hne, hz'⟩
      · simp [Tr.upd]
      · simp only [Tr.upd, Nat.add_right_cancel_iff, if_neg hne]; exact h.at_ k z hz'
    · have hk2 : t.ss.length ≤ k := by simpa [Tr.setS] using hk'
      simp only [Tr.upd, Nat.add_right_cancel_iff, if_neg (show ¬ k = j by omega)]; exact h.new k hk2
    · rcases set_at hz with ⟨rfl, rfl⟩ | ⟨hne, hz'⟩
      · simp [hf] at hz0
      · exact h.nil k z hz' hz0
    · obtain ⟨u, hu, e⟩ := h.own k z i hz hi
      by_cases hij : i = j
      · subst hij
        rw [hy] at hu
        obtain rfl := Option.some.inj hu
        exact ⟨{ y with flt := f }, by simp [Tr.setS, hyl], e⟩
      · exact ⟨u, by simpa [Tr.setS, List.getElem?_set_ne (Ne.symm hij)] using hu, e⟩
    · obtain ⟨i, u, h1, hu, h3, h4, h5⟩ := h.lv k z hz hv
      by_cases hij : i = j
      · subst hij
        exact ⟨i, { y with flt := f }, h1, by simp [Tr.setS, hyl], h3, by simp [hf], h5⟩
      · exact ⟨i, u, h1, by simpa [Tr.setS, List.getElem?_set_ne (Ne.symm hij)] using hu, h3, h4, h5⟩
  · rw [if_neg hk, if_neg hk]
    exact h.keepS hy rfl rfl
def Tr.told (fst blk : Nat → Tr.F) (l : Nat) (es : List Tr.E) : Prop := ∀ e, e ∈ es → e.k = 3 → ∃ m : Nat, e.m = m ∧ 1 ≤ m ∧ m ≤ l ∧ e.f = Tr.want fst blk m
theorem Fi.finish (h : Fi t fst blk) (j : Nat) : Fi (Tr.finish t j).1 fst blk ∧ Tr.told fst blk t.ss.length (Tr.finish t j).2 := by
  unfold Tr.finish
  split
  · exact ⟨h, by simp [Tr.told]⟩
  · rename_i y hy
    split
    · exact ⟨h, by simp [Tr.told]⟩
    · rename_i x hx
      split
      · rename_i he
        unfold Tr.ends at he
        simp only [Bool.and_eq_true, decide_eq_true_eq] at he
        obtain ⟨⟨hv, hl⟩, -⟩ := he
        obtain ⟨j', y', h1, h2, h3, h4, h5⟩ := h.lv _ x hx hv
        rw [hl] at h1
        obtain rfl := Option.some.inj (Option.some.inj h1)
        rw [hy] at h2
        obtain rfl := Option.some.inj h2
        have hS : Fi (Tr.setS t j { y with done := true }) fst blk := h.keepS hy rfl rfl
        refine ⟨hS.links rfl fun k hk => hS.own _ x k hx (List.dropLast_subset _ hk), ?_⟩
        intro e he hk
        simp only [List.mem_singleton] at he
        subst he
        refine ⟨j + 1, by simp [Tr.eLeft], by omega, by have := (List.getElem?_eq_some_iff.1 hy).1; omega, ?_⟩
        show Tr.lastF y x = _
        unfold Tr.lastF Tr.want
        rw [h.at_ j y hy, h3]
        by_cases hk0 : y.flt.k = 0
        · rw [if_pos hk0]
          rcases valid_cases h5 with e0 | e1 | e2
          · rw [if_neg (by simp [e0]), valid_nil h5 e0, h.nil j y hy hk0]
          · exact absurd hk0 (h4 e1)
          · rw [if_pos ⟨hk0, e2⟩]
        · rw [if_neg hk0, if_neg (by simp [hk0])]
      · exact ⟨h, by simp [Tr.told]⟩
theorem Fi.add (h : Fi t fst blk) (s : Option Nat) : Fi (Tr.add t s).1 fst blk := by
  unfold Tr.add
  split
  · exact h
  · have hA : Fi (Tr.addT t s) fst blk := by
      refine ⟨h.at_, h.new, h.nil, fun k z j hz hj => ?_, fun k z hz hv => ?_⟩
      · rcases snoc_at hz with ⟨-, rfl⟩ | ⟨-, hz'⟩
        · simp [Tr.tk0] at hj
        · exact h.own k z j hz' hj
      · rcases snoc_at hz with ⟨-, rfl⟩ | ⟨-, hz'⟩
        · simp [Tr.tk0] at hv
        · exact h.lv k z hz' hv
    unfold Tr.hook
    split
    · exact hA
    · split
      · exact hA
      · rename_i y hy
        exact hA.keepS hy rfl rfl
theorem Fi.spawn (h : Fi t fst blk) (n : Int) : Fi (Tr.spawn t n).1 fst blk := by
  unfold Tr.spawn
  repeat' split
  all_goals first | exact h | exact h.add _
theorem ac_leav {n : Int} {x : Tr.Tk} (hx : Tr.tk t n = some x) (ha : ¬ Tr.ac t n ≠ 0) : x.leav = false := by
  unfold Tr.ac at ha
  rw [hx] at ha
  simp only at ha
  cases hd : x.done <;> cases hl : x.leav <;> simp [hd, hl] at ha ⊢
theorem Fi.open_ (h : Fi t fst blk) (n : Int) (sup : Bool) : Fi (Tr.open_ t n sup).1 fst blk := by
  unfold Tr.open_
  split
  · exact h
  · rename_i ha
    split
    · exact h
    · split
      · exact h
      · rename_i x hx
        have hlv := ac_leav hx ha
        obtain ⟨i, rfl, hi⟩ := tk_some hx
        simp only [to_i]
        unfold Tr.opened
        have hA : Fi { t with ss := t.ss ++ [Tr.sc0 i sup] } fst blk := by
          refine ⟨fun k z hz => ?_, fun k hk => ?_, fun k z hz hz0 => ?_, fun k z j hz hj => ?_, fun k z hz hv => ?_⟩
          · rcases snoc_at hz with ⟨rfl, rfl⟩ | ⟨-, hz'⟩
            · rw [h.new _ (Nat.le_refl _)]; rfl
            · exact h.at_ k z hz'
          · refine h.new k ?_
            simp at hk; omega
          · rcases snoc_at hz with ⟨rfl, rfl⟩ | ⟨-, hz'⟩
            · rfl
            · exact h.nil k z hz' hz0
          · obtain ⟨u, hu, e⟩ := h.own k z j hz hj
            exact ⟨u, by simp only; rw [List.getElem?_append_left (List.getElem?_eq_some_iff.1 hu).1]; exact hu, e⟩
          · obtain ⟨j, u, h1, hu, h3⟩ := h.lv k z hz hv
            exact ⟨j, u, h1, by simp only; rw [List.getElem?_append_left (List.getElem?_eq_some_iff.1 hu).1]; exact hu, h3⟩
        refine hA.links hlv fun j hj => ?_
        simp only [List.mem_append, List.mem_singleton] at hj
        rcases hj with hj | hj
        · exact hA.own i x j hi hj
        · obtain rfl := Option.some.inj hj
          exact ⟨Tr.sc0 i sup, by simp, rfl⟩
theorem Fi.shield (h : Fi t fst blk) (n : Int) : Fi (Tr.shield t n).1 fst blk := by
  unfold Tr.shield
  split
  · exact h
  · rename_i ha
    split
    · exact h
    · rename_i x hx
      have hlv := ac_leav hx ha
      obtain ⟨i, rfl, hi⟩ := tk_some hx
      split
      · exact h
      · simp only [to_i]
        refine h.links hlv fun j hj => ?_
        simp at hj
        exact h.own i x j hi hj
theorem Fi.unveil (h : Fi t fst blk) (n : Int) : Fi (Tr.unveil t n).1 fst blk := by
  unfold Tr.unveil
  split
  · exact h
  · rename_i ha
    split
    · exact h
    · rename_i x hx
      have hlv := ac_leav hx ha
      obtain ⟨i, rfl, hi⟩ := tk_some hx
      split
      · simp only [to_i]
        exact h.links hlv fun j hj => h.own i x j hi (List.dropLast_subset _ hj)
      · exact h
/-- Which scope a call speaks of. -/
def Tr.lnN (s : Option Nat) : Int := match s with | none => 0 | some j => (j : Int) + 1
def Tr.gotSc (t : Tr.T) (o : Op) : Int :=
  if o.kd = 2 then (match Tr.tk t o.n with
    | none => 0
    | some x => match Tr.scp t (Tr.lnN x.sc) with | none => 0 | some y => if y.sup then 0 else Tr.lnN x.sc)
  else if o.kd = 3 then (match Tr.tk t o.n with
    | none => 0
    | some x => match x.op.getLast? with | none => 0 | some s => Tr.lnN s)
  else if o.kd = 6 then o.n else 0
def Tr.nfst (fst : Nat → Tr.F) (got : Int) (ok : Bool) (f : Tr.F) : Nat → Tr.F := if ok = true ∧ 0 < got ∧ f.k = 1 ∧ (fst got.toNat).k = 0 then Tr.upd fst got.toNat f else fst
def Tr.nblk (blk : Nat → Tr.F) (got : Int) (ok : Bool) (kd : Int) (f : Tr.F) : Nat → Tr.F := if ok = true ∧ kd = 3 then Tr.upd blk got.toNat f else blk
theorem nfst_eq (fst : Nat → Tr.F) (j : Nat) (f : Tr.F) : Tr.nfst fst ((j : Int) + 1) true f = if f.k = 1 then Tr.gets fst j f else fst := by
  unfold Tr.nfst Tr.gets
  rw [show ((j : Int) + 1).toNat = j + 1 by omega]
  by_cases h1 : f.k = 1 <;> by_cases h2 : (fst (j + 1)).k = 0 <;> simp [h1, h2] <;> omega
theorem nfst_zero (fst : Nat → Tr.F) (ok : Bool) (f : Tr.F) : Tr.nfst fst 0 ok f = fst := by unfold Tr.nfst; rw [if_neg (by omega)]
theorem nfst_no (fst : Nat → Tr.F) (got : Int) (f : Tr.F) : Tr.nfst fst got false f = fst := by unfold Tr.nfst; rw [if_neg (by simp)]
theorem nblk_no (blk : Nat → Tr.F) (got : Int) (kd : Int) (f : Tr.F) : Tr.nblk blk got false kd f = blk := by unfold Tr.nblk; rw [if_neg (by simp)]
theorem nblk_kd (blk : Nat → Tr.F) (got : Int) (ok : Bool) {kd : Int} (f : Tr.F) (h : kd ≠ 3) : Tr.nblk blk got ok kd f = blk := by unfold Tr.nblk; rw [if_neg (by simp [h])]
def FiStep (t : Tr.T) (r : Tr.T × List Tr.E × Bool) (fst blk : Nat → Tr.F) (got : Int) (kd : Int) (f : Tr.F) : Prop :=
  (r.2.2 = true → (kd = 3 ∨ (0 < got ∧ f.k = 1)) → 1 ≤ got ∧ got ≤ t.ss.length) ∧ Fi r.1 (Tr.nfst fst got r.2.2 f) (Tr.nblk blk got r.2.2 kd f) ∧ Tr.told (Tr.nfst fst got r.2.2 f) (Tr.nblk blk got r.2.2 kd f) t.ss.length r.2.1
theorem told_nil {fst blk : Nat → Tr.F} {l : Nat} : Tr.told fst blk l [] := by simp [Tr.told]
theorem told_cons {fst blk : Nat → Tr.F} {l : Nat} {es : List Tr.E} {j : Nat} (h : Tr.told fst blk l es) : Tr.told fst blk l (Tr.eScope j :: es) := fun e he hk => by
  rcases List.mem_cons.1 he with rfl | he
  · simp [Tr.eScope] at hk
  · exact h e he hk
theorem fi_plain (h : Fi t' fst blk) {got : Int} {kd : Int} {f : Tr.F} (hg : got = 0) (hk : kd ≠ 3) : FiStep t (t', [], true) fst blk got kd f := by
  subst hg
  refine ⟨fun _ h => by omega, ?_, told_nil⟩
  simp only [nfst_zero, nblk_kd _ _ _ _ hk]; exact h
theorem fi_bad (h : Fi t fst blk) {got : Int} {kd : Int} {f : Tr.F} : FiStep t (t, [], false) fst blk got kd f := by
  refine ⟨fun h => by simp at h, ?_, told_nil⟩
  simp only [nfst_no, nblk_no]; exact h
theorem take_len (t : Tr.T) (j : Nat) (f : Tr.F) : (Tr.take t j f).ss.length = t.ss.length := by
  unfold Tr.take; split <;> simp [Tr.setS]
theorem Fi.fail (h : Fi t fst blk) (n : Int) (f : Tr.F) : FiStep t ((Tr.fail t n f).1, (Tr.fail t n f).2.1, decide ((Tr.fail t n f).2.2 = 0)) fst blk n 6 f := by
  unfold Tr.fail
  split
  · exact fi_bad h
  · rename_i y hy
    split
    · exact fi_bad h
    · split
      · rename_i hv
        simp only [Bool.and_eq_true, decide_eq_true_eq] at hv
        obtain ⟨j, rfl, hj⟩ := scp_some hy
        have hjl := (List.getElem?_eq_some_iff.1 hj).1
        simp only [to_i]
        have HT := h.take hj hv.2
        split
        · refine ⟨fun _ _ => by omega, ?_, ?_⟩
          · simp only [decide_true, nfst_eq, if_pos hv.2, nblk_kd blk _ _ f (show (6 : Int) ≠ 3 by omega)]; exact HT
          · exact told_cons told_nil
        · rename_i hk
          refine ⟨fun _ _ => by omega, ?_, told_nil⟩
          simp only [decide_true, nfst_eq, if_pos hv.2, nblk_kd blk _ _ f (show (6 : Int) ≠ 3 by omega)]
          unfold Tr.takes at hk
          unfold Tr.gets
          rw [h.at_ j y hj, if_neg (by simpa using hk)]
          exact h
      · exact fi_bad h
theorem Fi.end_ (h : Fi t fst blk) (o : Op) (hk : o.kd = 2) : FiStep t ((Tr.end_ t o.n o.f).1, (Tr.end_ t o.n o.f).2.1, decide ((Tr.end_ t o.n o.f).2.2 = 0)) fst blk (Tr.gotSc t o) o.kd o.f := by
  have h3 : o.kd ≠ 3 := by omega
  unfold Tr.end_
  split
  · rename_i hr
    have : decide (Tr.rc t o.n = 0) = false := by simpa using hr
    simp only [this]; exact fi_bad h
  · split
    · exact fi_bad h
    · rename_i hv
      have hv : Tr.validB o.f = true := by simpa using hv
      split
      · exact fi_bad h
      · rename_i x hx
        split
        · exact fi_bad h
        · obtain ⟨i, hn, hi⟩ := tk_some hx
          have hgot : Tr.gotSc t o = match Tr.scp t (Tr.lnN x.sc) with | none => 0 | some y => if y.sup then 0 else Tr.lnN x.sc := by
            unfold Tr.gotSc; rw [if_pos hk, hx]
          generalize Tr.gotSc t o = g at hgot ⊢
          simp only [hn, to_i]
          have H1 : Fi (Tr.setT t i { x with done := true, flt := o.f }) fst blk := h.keepT hi rfl rfl rfl
          split
          · rename_i hs
            rw [hs] at hgot
            exact fi_plain H1 (by rw [hgot]; rfl) h3
          · rename_i j hs
            rw [hs] at hgot
            have e1 : Tr.scp t (Tr.lnN (some j)) = t.ss[j]? := by
              unfold Tr.scp Tr.lnN
              simp only
              rw [if_pos (by omega)]; congr 1; omega
            rw [e1] at hgot
            simp only [show ∀ x', (Tr.setT t i x').ss = t.ss from fun _ => rfl]
            cases hy : t.ss[j]? with
            | none =>
              rw [hy] at hgot
              exact fi_plain H1 hgot h3
            | some y =>
              have hjl := (List.getElem?_eq_some_iff.1 hy).1
              rw [hy] at hgot
              simp only [Tr.lnN] at hgot ⊢
              split
              · rename_i hc
                obtain ⟨c1, c2, c3⟩ := hc
                rw [c2] at hgot
                simp only [Bool.false_eq_true, if_false] at hgot
                subst hgot
                have H2 := (H1.take (j := j) hy c1).finish j
                rw [take_len] at H2
                refine ⟨fun _ _ => ⟨by omega, by omega⟩, ?_, ?_⟩
                · simp only [decide_true, nblk_kd blk _ _ _ h3, nfst_eq, if_pos c1]; exact H2.1
                · simp only [decide_true, nblk_kd blk _ _ _ h3, nfst_eq, if_pos c1]; exact told_cons H2.2
              · rename_i hc
                have H2 := H1.finish j
                have e : ∀ b, Tr.nfst fst g b o.f = fst := fun b => by
                  unfold Tr.nfst
                  rw [if_neg]
                  rintro ⟨-, c0, c1, c2⟩
                  cases hsup : y.sup with
                  | true => rw [hsup] at hgot; simp at hgot; omega
                  | false =>
                    rw [hsup] at hgot
                    simp only [Bool.false_eq_true, if_false] at hgot
                    subst hgot
                    rw [show ((j : Int) + 1).toNat = j + 1 by omega, h.at_ j y hy] at c2
                    exact hc ⟨c1, hsup, c2⟩
                refine ⟨fun _ hh => ?_, ?_, ?_⟩
                · rcases hh with hh | hh
                  · omega
                  · cases hsup : y.sup with
                    | true => rw [hsup] at hgot; simp at hgot; omega
                    | false => rw [hsup] at hgot; simp at hgot; omega
                · simp only [e, nblk_kd blk _ _ _ h3]; exact H2.1
                · simp only [e, nblk_kd blk _ _ _ h3]; exact H2.2
/-- A task leaves: what was left is kept beside. -/
theorem Fi.left (h : Fi t fst blk) {i j : Nat} {x : Tr.Tk} {y : Tr.Sc} {f : Tr.F} (hx : t.ts[i]? = some x) (hl : x.op.getLast? = some (some j)) (hy : t.ss[j]? = some y) (hv : Tr.validB f = true) (h1 : f.k = 1 → y.flt.k ≠ 0) : Fi (Tr.setT t i { x with leav := true, left := f }) fst (Tr.upd blk (j + 1) f) where
  at_ := h.at_
  new := h.new
  nil := h.nil
  own := fun k z m hz hm => by
    rcases set_at hz with ⟨rfl, rfl⟩ | ⟨-, hz'⟩
    · exact h.own _ x m hx hm
    · exact h.own k z m hz' hm
  lv := fun k z hz hv' => by
    rcases set_at hz with ⟨rfl, rfl⟩ | ⟨hne, hz'⟩
    · exact ⟨j, y, hl, hy, by simp [Tr.upd], h1, hv⟩
    · obtain ⟨m, u, a1, a2, a3, a4, a5⟩ := h.lv k z hz' hv'
      refine ⟨m, u, a1, a2, ?_, a4, a5⟩
      have hm : m ≠ j := by
        rintro rfl
        obtain ⟨p, hp, ep⟩ := h.own i x m hx (List.mem_of_getLast? hl)
        obtain ⟨q, hq, eq⟩ := h.own k z m hz' (List.mem_of_getLast? a1)
        rw [hp] at hq
        obtain rfl := Option.some.inj hq
        omega
      simp only [Tr.upd, Nat.add_right_cancel_iff, if_neg hm]
      exact a3
theorem Fi.leave (h : Fi t fst blk) (o : Op) (hk : o.kd = 3) : FiStep t ((Tr.leave t o.n o.f).1, (Tr.leave t o.n o.f).2.1, decide ((Tr.leave t o.n o.f).2.2 = 0)) fst blk (Tr.gotSc t o) o.kd o.f := by
  unfold Tr.leave
  split
  · rename_i hr
    have : decide (Tr.rc t o.n = 0) = false := by simpa using hr
    simp only [this]; exact fi_bad h
  · split
    · exact fi_bad h
    · rename_i hv
      have hv : Tr.validB o.f = true := by simpa using hv
      split
      · exact fi_bad h
      · rename_i x hx
        obtain ⟨i, hn, hi⟩ := tk_some hx
        have hgot : Tr.gotSc t o = match x.op.getLast? with | none => 0 | some s => Tr.lnN s := by
          unfold Tr.gotSc; rw [if_neg (by omega), if_pos hk, hx]
        generalize Tr.gotSc t o = g at hgot ⊢
        simp only [hn, to_i]
        split
        · rename_i j hl
          rw [hl] at hgot
          simp only [Tr.lnN] at hgot
          subst hgot
          split
          · exact fi_bad h
          · obtain ⟨y, hy, -⟩ := h.own i x j hi (List.mem_of_getLast? hl)
            have hjl := (List.getElem?_eq_some_iff.1 hy).1
            have key : ∀ (t1 : Tr.T) (f1 : Nat → Tr.F) (es : List Tr.E), Fi t1 f1 blk → t1.ss.length = t.ss.length → t1.ts = t.ts → Tr.nfst fst ((j : Int) + 1) true o.f = f1 → (∃ y1, t1.ss[j]? = some y1 ∧ (o.f.k = 1 → y1.flt.k ≠ 0)) → (es = [] ∨ es = [Tr.eScope j]) →
                FiStep t ((Tr.finish (Tr.setT t1 i { x with leav := true, left := o.f }) j).1, es ++ (Tr.finish (Tr.setT t1 i { x with leav := true, left := o.f }) j).2, true) fst blk ((j : Int) + 1) o.kd o.f := by
              intro t1 f1 es hF hlen hts hf1 ⟨y1, hy1, hf⟩ hes
              have H2 := (hF.left (i := i) (by rw [hts]; exact hi) hl hy1 hv hf).finish j
              have hbl : Tr.nblk blk ((j : Int) + 1) true o.kd o.f = Tr.upd blk (j + 1) o.f := by
                unfold Tr.nblk
                rw [if_pos ⟨rfl, hk⟩, show ((j : Int) + 1).toNat = j + 1 by omega]
              refine ⟨fun _ _ => ⟨by omega, by omega⟩, ?_, ?_⟩
              · simp only [hf1, hbl]; exact H2.1
              · simp only [hf1, hbl]
                rw [show (Tr.setT t1 i { x with leav := true, left := o.f }).ss.length = t.ss.length from hlen] at H2
                rcases hes with rfl | rfl
                · exact H2.2
                · exact told_cons H2.2
            have hes : ∀ t1 : Tr.T, (match t1.ss[j]? with | none => [] | some y => if o.f.k ≠ 0 ∧ Tr.busy t1 y = true then [Tr.eScope j] else []) = [] ∨ (match t1.ss[j]? with | none => [] | some y => if o.f.k ≠ 0 ∧ Tr.busy t1 y = true then [Tr.eScope j] else []) = [Tr.eScope j] := by
              intro t1
              split
              · exact .inl rfl
              · split
                · exact .inr rfl
                · exact .inl rfl
            by_cases h1 : o.f.k = 1
            · simp only [if_pos h1, decide_true]
              refine key (Tr.take t j o.f) (Tr.gets fst j o.f) _ (h.take hy h1) (take_len _ _ _) ?_ (by rw [nfst_eq, if_pos h1]) ?_ (hes _)
              · unfold Tr.take; split <;> rfl
              · refine ⟨Tr.taken y o.f, ?_, fun _ => ?_⟩
                · unfold Tr.take; rw [hy]; simp [Tr.setS, hjl]
                · unfold Tr.taken; split
                  · simp [h1]
                  · assumption
            · simp only [if_neg h1, decide_true]
              exact key t fst _ h rfl rfl (by rw [nfst_eq, if_neg h1]) ⟨y, hy, fun h => absurd h h1⟩ (hes _)
        · exact fi_bad h
theorem Fi.step (h : Fi t fst blk) (o : Op) : FiStep t (Tr.step t o) fst blk (Tr.gotSc t o) o.kd o.f := by
  have hz : o.kd ≠ 2 → o.kd ≠ 3 → o.kd ≠ 6 → Tr.gotSc t o = 0 := fun h2 h3 h6 => by unfold Tr.gotSc; rw [if_neg h2, if_neg h3, if_neg h6]
  unfold Tr.step
  split
  · exact fi_plain (h.open_ _ _) (hz (by omega) (by omega) (by omega)) (by omega)
  split
  · exact fi_plain (h.spawn _) (hz (by omega) (by omega) (by omega)) (by omega)
  split
  · rename_i hk; exact h.end_ o hk
  split
  · rename_i hk; exact h.leave o hk
  split
  · exact fi_plain (h.shield _) (hz (by omega) (by omega) (by omega)) (by omega)
  split
  · exact fi_plain (h.unveil _) (hz (by omega) (by omega) (by omega)) (by omega)
  split
  · rename_i hk
    have e : Tr.gotSc t o = o.n := by unfold Tr.gotSc; rw [if_neg (by omega), if_neg (by omega), if_pos hk]
    rw [e, hk]
    exact h.fail _ _
  split
  · exact fi_plain (h.add none) (hz (by omega) (by omega) (by omega)) (by omega)
  · exact fi_plain h (hz (by omega) (by omega) (by omega)) (by omega)
theorem Fi.new_ (n : Nat) : Fi (Tr.new n) (fun _ => Tr.f0) (fun _ => Tr.f0) := by
  refine ⟨by simp [Tr.new], by simp [Tr.new], by simp [Tr.new], fun i x j hx hj => ?_, fun i x hx hv => ?_⟩
  · simp [Tr.new, List.getElem?_replicate] at hx
    obtain ⟨-, rfl⟩ := hx
    simp [Tr.tk0] at hj
  · simp [Tr.new, List.getElem?_replicate] at hx
    obtain ⟨-, rfl⟩ := hx
    simp [Tr.tk0] at hv
end
end Go.Proofs.Ytcegmdlmnibheaa
