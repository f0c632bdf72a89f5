/- A ledger in memory. -/
import Derived.Test.YtapbghkoijmjeaaSpec
namespace Go.Proofs.Ytapbghkoijmjeaa
set_option linter.unusedVariables false
set_option linter.unusedSimpArgs false
open Go.RowKit

/-- What a block serves as. -/
inductive Role where
  | led
  | ents
  | hand (k : Nat)
abbrev Own := Nat → Option Role
def put (own : Own) (b : Option Nat) (r : Role) : Own := fun k => if b = some k then some r else own k
/-- Where the parts lie: the list of entries, and what each task holds. -/
structure Lay where
  ev : Value
  hv : Nat → Value
abbrev ptr (b : Nat) : Value := .pointer (some ⟨b, 0, none⟩)
abbrev ptrH (b k : Nat) : Value := .pointer (some ⟨b, 2 + k, none⟩)
abbrev enC (e : Ld.En) : List Value := [.int .i64 e.what, .int .i64 e.task, .int .i64 e.frm, .int .i64 e.to_, .bool e.cr, .bool e.lk]
abbrev natV (n : Nat) : Value := .int .i64 (n : Int)
def ldC (L : Lay) (t : Ld.T) : List Value := natV t.time :: L.ev :: (List.range 65).map L.hv
def Lay.setH (L : Lay) (k : Nat) (v : Value) : Lay := { L with hv := fun j => if j = k then v else L.hv j }
theorem ldC_len (L : Lay) (t : Ld.T) : (ldC L t).length = 67 := by simp [ldC]
theorem ldC_hand (L : Lay) (t : Ld.T) {k : Nat} (hk : k < 65) : (ldC L t)[2 + k]? = some (L.hv k) := by
  rw [show 2 + k = k + 1 + 1 by omega]
  simp [ldC, hk]
theorem ldC_setH (L : Lay) (t : Ld.T) {k : Nat} (hk : k < 65) (v : Value) (l : List Nat) : (ldC L t).set (2 + k) v = ldC (L.setH k v) (Ld.setH t k l) := by
  rw [show 2 + k = k + 1 + 1 by omega]
  simp only [ldC, List.set_cons_succ, Ld.setH]
  congr 2
  apply List.ext_getElem
  · simp
  · intro j h1 h2
    simp at h2
    by_cases e : k = j
    · subst e; simp [Lay.setH]
    · rw [List.getElem_set_ne e]; simp [Lay.setH, Ne.symm e]

structure Rep (W : World) (own : Own) (lb : Nat) (L : Lay) (t : Ld.T) : Prop where
  lt : ∀ k r, own k = some r → k < W.heap.size
  mine : own lb = some .led
  blk : Blk W lb (ldC L t)
  evo : ∀ k, L.ev.ownBlock = some k → own k = some .ents
  erow : W.ownsRow 0 76 6 L.ev t.es.length (t.es.flatMap enC)
  hvo : ∀ i k, i < 65 → (L.hv i).ownBlock = some k → own k = some (.hand i)
  hrow : ∀ i, i < 65 → W.ownsRow 0 3 1 (L.hv i) (t.hs i).length ((t.hs i).map natV)

section
variable {W W' : World} {own own' : Own} {lb : Nat} {L : Lay} {t : Ld.T}
theorem Rep.own_ (h : Rep W own lb L t) (h0 : ∀ k r, own k = some r → own' k = some r) (h1 : ∀ k r, own' k = some r → k < W.heap.size) : Rep W own' lb L t :=
  ⟨h1, h0 _ _ h.mine, h.blk, fun k e => h0 _ _ (h.evo k e), h.erow, fun i k hi e => h0 _ _ (h.hvo i k hi e), h.hrow⟩
theorem Rep.fr (h : Rep W own lb L t) {S : Nat → Prop} (hF : Fr S W W') (h1 : ∀ k, S k → own k = none) : Rep W' own lb L t where
  lt k r e := Nat.lt_of_lt_of_le (h.lt k r e) hF.size
  mine := h.mine
  blk := h.blk.fr hF fun hs => by have := h.mine; rw [h1 _ hs] at this; simp at this
  evo := h.evo
  erow := owns_fr h.erow hF fun k e hs => by have := h.evo k e; rw [h1 k hs] at this; simp at this
  hvo := h.hvo
  hrow i hi := owns_fr (h.hrow i hi) hF fun k e hs => by have := h.hvo i k hi e; rw [h1 k hs] at this; simp at this
theorem Rep.below (h : Rep W own lb L t) (hb : Below W.heap.size W W') : Rep W' own lb L t := h.fr (S := none_) (Fr.of_below hb) (fun _ h => h.elim)
theorem Rep.drew (h : Rep W own lb L t) : Rep W.drew own lb L t := h.below (below_drewN (Below.refl _ W) 1)
theorem Rep.drewN (h : Rep W own lb L t) (n : Nat) : Rep (W.drewN n) own lb L t := h.below (below_drewN (Below.refl _ W) n)
theorem Rep.not_own (h : Rep W own lb L t) {k : Nat} (hk : W.heap.size ≤ k) : own k = none := by
  cases e : own k with
  | none => rfl
  | some r => have := h.lt k r e; omega
theorem put_keep (own : Own) {b : Option Nat} {r : Role} {n : Nat} (hb : ∀ k, b = some k → own k = some r ∨ n ≤ k) (hlt : ∀ k r, own k = some r → k < n) : (∀ k s, own k = some s → put own b r k = some s) ∧ (∀ k, k < n → put own b r k = own k) := by
  have key : ∀ k, b = some k → k < n → own k = some r := fun k e hk => (hb k e).elim id fun h => by omega
  refine ⟨fun k s e => ?_, fun k hk => ?_⟩
  · unfold put
    split
    · rename_i h; rw [← e, key k h (hlt k s e)]
    · exact e
  · unfold put
    split
    · rename_i h; exact (key k h hk).symm
    · rfl

/-- The time has turned. -/
theorem Rep.turnTime (h : Rep W own lb L t) {n : Nat} (hF : Fr (fun k => k = lb) W W') (hB : Blk W' lb (ldC L { t with time := n })) : Rep W' own lb L { t with time := n } := by
  have key : ∀ k r, k = lb → own k = some r → r = .led := fun k r e e' => by subst e; rw [h.mine] at e'; exact (Option.some.inj e').symm
  exact ⟨fun k r e => Nat.lt_of_lt_of_le (h.lt k r e) hF.size, h.mine, hB, h.evo, owns_fr h.erow hF fun k e e' => by have := key _ _ e' (h.evo k e); simp at this, h.hvo,
    fun i hi => owns_fr (h.hrow i hi) hF fun k e e' => by have := key _ _ e' (h.hvo i k hi e); simp at this⟩
/-- What a task holds has turned. -/
theorem Rep.turnH (h : Rep W own lb L t) {k : Nat} (hk : k < 65) {v : Value} {l : List Nat} (hF : Fr (fun b => b = lb ∨ (L.hv k).ownBlock = some b) W W') (hB : Blk W' lb (ldC (L.setH k v) (Ld.setH t k l)))
    (hv : v.ownBlock = none ∨ v.ownBlock = (L.hv k).ownBlock ∨ ∃ g, v.ownBlock = some g ∧ W.heap.size ≤ g) (hrow : W'.ownsRow 0 3 1 v l.length (l.map natV)) :
    Rep W' (put own v.ownBlock (.hand k)) lb (L.setH k v) (Ld.setH t k l) := by
  have hpk := put_keep own (b := v.ownBlock) (r := .hand k) (n := W.heap.size) (fun b e => by
    rcases hv with hv | hv | ⟨g, hv, hg⟩
    · rw [hv] at e; cases e
    · rw [hv] at e; exact .inl (h.hvo k b hk e)
    · rw [hv] at e; cases e; exact .inr hg) h.lt
  have key : ∀ b r, (b = lb ∨ (L.hv k).ownBlock = some b) → own b = some r → r = .led ∨ r = .hand k := fun b r e e' => by
    rcases e with e | e
    · subst e; rw [h.mine] at e'; exact .inl (Option.some.inj e').symm
    · rw [h.hvo k b hk e] at e'; exact .inr (Option.some.inj e').symm
  refine ⟨fun b r e => ?_, hpk.1 _ _ h.mine, hB, fun b e => hpk.1 _ _ (h.evo b e), ?_, fun i b hi e => ?_, fun i hi => ?_⟩
  · unfold put at e
    split at e
    · rename_i hb; exact (hrow.lt b hb).2
    · exact Nat.lt_of_lt_of_le (h.lt b r e) hF.size
  · exact owns_fr h.erow hF fun b e e' => by rcases key _ _ e' (h.evo b e) with h | h <;> simp at h
  · by_cases ei : i = k
    · subst ei
      have e2 : (L.setH i v).hv i = v := by simp [Lay.setH]
      rw [e2] at e
      unfold put; rw [if_pos e]
    · have e2 : (L.setH k v).hv i = L.hv i := by simp [Lay.setH, ei]
      rw [e2] at e
      exact hpk.1 _ _ (h.hvo i b hi e)
  · by_cases ei : i = k
    · subst ei
      simpa [Lay.setH, Ld.setH] using hrow
    · have := owns_fr (h.hrow i hi) hF fun b e e' => by
        rcases key _ _ e' (h.hvo i b hi e) with h | h <;> simp at h
        exact ei h
      simpa [Lay.setH, Ld.setH, ei] using this
/-- The list of entries has turned. -/
theorem Rep.turnE (h : Rep W own lb L t) {v : Value} {es : List Ld.En} (hF : Fr (fun b => b = lb ∨ L.ev.ownBlock = some b) W W') (hB : Blk W' lb (ldC { L with ev := v } { t with es := es }))
    (hv : v.ownBlock = none ∨ v.ownBlock = L.ev.ownBlock ∨ ∃ g, v.ownBlock = some g ∧ W.heap.size ≤ g) (hrow : W'.ownsRow 0 76 6 v es.length (es.flatMap enC)) :
    Rep W' (put own v.ownBlock .ents) lb { L with ev := v } { t with es := es } := by
  have hpk := put_keep own (b := v.ownBlock) (r := .ents) (n := W.heap.size) (fun b e => by
    rcases hv with hv | hv | ⟨g, hv, hg⟩
    · rw [hv] at e; cases e
    · rw [hv] at e; exact .inl (h.evo b e)
    · rw [hv] at e; cases e; exact .inr hg) h.lt
  have key : ∀ b r, (b = lb ∨ L.ev.ownBlock = some b) → own b = some r → r = .led ∨ r = .ents := fun b r e e' => by
    rcases e with e | e
    · subst e; rw [h.mine] at e'; exact .inl (Option.some.inj e').symm
    · rw [h.evo b e] at e'; exact .inr (Option.some.inj e').symm
  refine ⟨fun b r e => ?_, hpk.1 _ _ h.mine, hB, fun b e => ?_, hrow, fun i b hi e => hpk.1 _ _ (h.hvo i b hi e), fun i hi => ?_⟩
  · unfold put at e
    split at e
    · rename_i hb; exact (hrow.lt b hb).2
    · exact Nat.lt_of_lt_of_le (h.lt b r e) hF.size
  · unfold put; rw [if_pos e]
  · exact owns_fr (h.hrow i hi) hF fun b e e' => by rcases key _ _ e' (h.hvo i b hi e) with h | h <;> simp at h

/-- The ledger behind a call; of what was there its own blocks alone have turned. -/
def Gone (w : World) (own : Own) (lb : Nat) (t : Ld.T) (w' : World) : Prop := ∃ own' L, Rep w' own' lb L t ∧ (∀ k, k < w.heap.size → own' k = own k) ∧ Fr (fun k => own k ≠ none) w w'
theorem Rep.gone (h : Rep W own lb L t) : Gone W own lb t W := ⟨own, L, h, fun _ _ => rfl, Fr.refl _ _⟩
theorem Gone.then_ {w w1 w2 : World} {t1 t2 : Ld.T} (h : Gone w own lb t1 w1) (k : ∀ own1 L1, Rep w1 own1 lb L1 t1 → Gone w1 own1 lb t2 w2) : Gone w own lb t2 w2 := by
  obtain ⟨o1, L1, hR, h1, hF⟩ := h
  obtain ⟨o2, L2, hR2, h2, hF2⟩ := k o1 L1 hR
  refine ⟨o2, L2, hR2, fun x hx => (h2 x (Nat.lt_of_lt_of_le hx hF.size)).trans (h1 x hx), hF.thenL hF2 fun x hx => ?_⟩
  by_cases hl : x < w.heap.size
  · rw [h1 x hl] at hx; exact .inl hx
  · exact .inr (by omega)
theorem Gone.then' {w w1 w2 : World} {t1 t2 : Ld.T} (_ : Gone w own lb t1 w1) {o1 : Own} (h : ∃ o L, o = o1 ∧ Rep w1 o lb L t1 ∧ (∀ k, k < w.heap.size → o k = own k) ∧ Fr (fun k => own k ≠ none) w w1) (k : Gone w1 o1 lb t2 w2) : Gone w own lb t2 w2 := by
  obtain ⟨o1, L1, rfl, hR, h1, hF⟩ := h
  obtain ⟨o2, L2, hR2, h2, hF2⟩ := k
  refine ⟨o2, L2, hR2, fun x hx => (h2 x (Nat.lt_of_lt_of_le hx hF.size)).trans (h1 x hx), hF.thenL hF2 fun x hx => ?_⟩
  by_cases hl : x < w.heap.size
  · rw [h1 x hl] at hx; exact .inl hx
  · exact .inr (by omega)
theorem Gone.below {w w1 w2 : World} (h : Gone w own lb t w1) (hb : Below w1.heap.size w1 w2) : Gone w own lb t w2 :=
  h.then_ fun o L hR => ⟨o, L, hR.below hb, fun _ _ => rfl, Fr.of_below hb⟩
theorem Gone.from_ {w w1 w2 : World} (hb : Below w.heap.size w w1) (h : Gone w1 own lb t w2) : Gone w own lb t w2 := by
  obtain ⟨o, M, h1, h2, h3⟩ := h
  exact ⟨o, M, h1, fun k hk => h2 k (by have := hb.size; omega), (Fr.of_below hb).trans h3⟩
end
end Go.Proofs.Ytapbghkoijmjeaa
