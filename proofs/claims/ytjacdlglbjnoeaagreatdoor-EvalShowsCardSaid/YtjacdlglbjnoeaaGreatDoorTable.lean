/- The table of the binary operators: what the function binaries returns. -/
import Derived.Test.YtjacdlglbjnoeaaGreatDoorMaps
import Derived.Test.YtjacdlglbjnoeaaGreatDoorBoth
import Derived.Below
import Derived.Carry
namespace Go.Proofs.YtjacdlglbjnoeaaGreatDoor
open Go.RowKit
open Go.Maps (Keyed)

/-- A closure of the function f over the variable in block b. -/
abbrev clo (f b : Nat) : Value := .func (.func f) #[] #[.pointer (some ⟨b, 0, none⟩)]
/-- A function without captured variables. -/
abbrev fnV (f : Nat) : Value := .func (.func f) #[] #[]

theorem wpList_insert_held {P : Program} (w : World) {ops : Array Oper} {rest : List Oper} {o : Oper} {a : Act} {Q : Exit → Act → World → Prop} (hg : o.guard = none) (m x v : Operand) (t : TypeId) (hop : o.op = Op.insert t m x v)
    (k e : TypeId) (K : Keyed P k) (ht : P.underlying t = some (.map k e)) (b n : Nat) (D : DataW Value)
    (hm : a.eval m = .map (some b)) (hown : w.ownsMap P k heldR b n D) (hn : n < maxLen) (key val : Value) (kl : Lit) (hx : a.eval x = key) (hv : a.eval v = val) (hkey : keyOf P k key = some kl)
    (hK : ∀ w', w'.ownsMap P k heldR b (n + 1) (D.put kl (.held val)) → w.grownBy w' (some b) → wpList P ops Q rest (a.put o.dst undef) w') :
    wpList P ops Q (o :: rest) a w := by
  refine wpList_plain hg fun K' hK' => ?_
  obtain ⟨w', hrun, r1, r2⟩ := hown.update K ht hn hkey (val := val) (d := .held val) (ps := []) rfl
  unfold Oper.wp
  simp [execOp, hop, hm, hx, hv, hrun, Result.andThen]
  exact hK' _ _ (hK w' r1 r2)

theorem key3 : Keyed Tryz.prog 3 := Go.Maps.int_keyed Tryz.underlying3
theorem keyI (n : Int) (h : (Lit.int .i64 n).wf = true) : keyOf Tryz.prog 3 (.int .i64 n) = some (.int .i64 n) := Go.Maps.keyOf_int_mk Tryz.underlying3 h


/-- What is known while the table is made: the map's block, its entries, and the captured variables. -/
structure Inv (w0 w : World) (bm n : Nat) (D : DataW Value) (L : List (Nat × Value)) : Prop where
  below : Below w0.heap.size w0 w
  base : w0.heap.size ≤ bm
  owns : w.ownsMap Tryz.prog 3 heldR bm n D
  cells : ∀ p ∈ L, p.1 ≠ bm ∧ w.cell? ⟨p.1, 0, none⟩ = some p.2

theorem Inv.start (w : World) : Inv w (w.alloc (.map #[] 0)) w.heap.size 0 (.map []) [] :=
  ⟨one w _, Nat.le_refl _, World.ownsMap_made _ _ _ _, fun p h => by cases h⟩

theorem Inv.box {w0 w : World} {bm n : Nat} {D : DataW Value} {L : List (Nat × Value)} (h : Inv w0 w bm n D L) (v : Value) (t : TypeId) : Inv w0 (w.alloc (.cells #[v] t)) bm n D ((w.heap.size, v) :: L) := by
  refine ⟨h.below.alloc h.below.size _, h.base, h.owns.alloc _, fun p hp => ?_⟩
  have hb := h.owns.lt
  rcases List.mem_cons.1 hp with rfl | hp
  · exact ⟨by show w.heap.size ≠ bm; omega, World.cell?_alloc_at _ _ _ _ rfl⟩
  · have h1 := h.cells p hp
    exact ⟨h1.1, cell_of (one w _) h1.2⟩

theorem Inv.fill {w0 w w' : World} {bm n m : Nat} {D D' : DataW Value} {L : List (Nat × Value)} (h : Inv w0 w bm n D L) (ho : w'.ownsMap Tryz.prog 3 heldR bm m D') (hg : w.grownBy w' (some bm)) : Inv w0 w' bm m D' L := by
  refine ⟨h.below.grown hg h.below.size (fun k hk => by cases hk; exact h.base), h.base, ho, fun p hp => ?_⟩
  have h1 := h.cells p hp
  have hlt : p.1 < w.heap.size := World.block_lt_of_cell? _ _ h1.2
  refine ⟨h1.1, ?_⟩
  have hb := hg.block p.1 hlt (fun e => h1.1 (Option.some.inj e))
  have h2 := h1.2
  unfold World.cell? at h2 ⊢
  simp only [hb]
  exact h2

def keysBelow (l : List (Lit × DataW Value)) (k : Int) : Prop := ∀ p ∈ l, ∃ j : Int, p.1 = .int .i64 j ∧ j < k
theorem keysBelow_nil (k : Int) : keysBelow [] k := fun p h => by cases h
theorem keysBelow_snoc {l : List (Lit × DataW Value)} {k k' : Int} {d : DataW Value} (h : keysBelow l k) (hk : k < k') : keysBelow (l ++ [(.int .i64 k, d)]) k' := fun p hp => by
  rcases List.mem_append.1 hp with hp | hp
  · obtain ⟨j, h1, h2⟩ := h p hp
    exact ⟨j, h1, by omega⟩
  · simp at hp
    subst hp
    exact ⟨k, rfl, hk⟩

theorem put_end (k : Int) (d : DataW Value) : ∀ (l : List (Lit × DataW Value)), keysBelow l k → (DataW.map l).put (.int .i64 k) d = .map (l ++ [(.int .i64 k, d)]) := by
  intro l h
  have h1 : (l.filter fun p => !p.1.sameKey (.int .i64 k)) = l := by
    rw [List.filter_eq_self]
    intro p hp
    obtain ⟨j, h1, h2⟩ := h p hp
    have : j ≠ k := by omega
    simp [h1, Lit.sameKey, this]
  have h2 : ∀ l : List (Lit × DataW Value), keysBelow l k → DataW.insert (.int .i64 k, d) l = l ++ [(.int .i64 k, d)] := by
    intro l
    induction l with
    | nil => intro _; rfl
    | cons y r ih =>
      intro h
      obtain ⟨j, h1, h2⟩ := h y (.head _)
      have h3 : (Lit.int IntKind.i64 k).before y.1 = false := by
        rw [h1]
        simp [Lit.before]
        omega
      unfold DataW.insert
      simp only [h3]
      rw [ih (fun p hp => h p (.tail _ hp))]
      simp
  unfold DataW.put
  simp only [h1]
  rw [h2 l h]

theorem wpList_insert_inv {w0 w : World} {ops : Array Oper} {rest : List Oper} {o : Oper} {a : Act} {Q : Exit → Act → World → Prop} (hg : o.guard = none) (m x v : Operand) (hop : o.op = Op.insert 79 m x v)
    (bm n : Nat) (l : List (Lit × DataW Value)) (L : List (Nat × Value)) (H : Inv w0 w bm n (.map l) L) (hm : a.eval m = .map (some bm)) (hn : n < maxLen) (key : Int) (val : Value) (hx : a.eval x = .int .i64 key) (hv : a.eval v = val) (hw : (Lit.int .i64 key).wf = true)
    (hl : keysBelow l key)
    (hK : ∀ w', Inv w0 w' bm (n + 1) (.map (l ++ [(.int .i64 key, .held val)])) L → keysBelow (l ++ [(.int .i64 key, .held val)]) (key + 1) → wpList Tryz.prog ops Q rest (a.put o.dst undef) w') :
    wpList Tryz.prog ops Q (o :: rest) a w :=
  wpList_insert_held w hg m x v 79 hop 3 89 key3 Tryz.underlying79 bm n (.map l) hm H.owns hn _ val _ hx hv (keyI key hw) fun w' h1 h2 => hK w' (by rw [put_end key _ l hl] at h1; exact H.fill h1 h2) (keysBelow_snoc hl (by omega))

section
variable {w0 w : World} {bm n : Nat} {D : DataW Value} {L : List (Nat × Value)} (H : Inv w0 w bm n D L)
include H
theorem lazy_any (x : Int) : Calls Tryz.prog 82 #[.int .i64 x] w fun e w' => ∃ b, e = .returned (clo 110 b) ∧ Inv w0 w' bm n D ((b, .int .i64 x) :: L) := by
  refine Calls.mono (R := fun e w' => e = .returned (clo 110 w.heap.size) ∧ w' = w.alloc (.cells #[.int .i64 x] 3)) ?_ fun e w' ⟨he, hw⟩ => ⟨_, he, by rw [hw]; exact H.box _ _⟩
  clear H
  go_enter Tryz.func82, Tryz.ntmps82
  go_wp2
  go_ret
  exact ⟨rfl, rfl⟩
theorem equality_any (x : Bool) : Calls Tryz.prog 83 #[.bool x] w fun e w' => ∃ b, e = .returned (clo 111 b) ∧ Inv w0 w' bm n D ((b, .bool x) :: L) := by
  refine Calls.mono (R := fun e w' => e = .returned (clo 111 w.heap.size) ∧ w' = w.alloc (.cells #[.bool x] 4)) ?_ fun e w' ⟨he, hw⟩ => ⟨_, he, by rw [hw]; exact H.box _ _⟩
  clear H
  go_enter Tryz.func83, Tryz.ntmps83
  go_wp2
  go_ret
  exact ⟨rfl, rfl⟩
theorem order_any (x : Int) : Calls Tryz.prog 84 #[.int .i64 x] w fun e w' => ∃ b, e = .returned (clo 112 b) ∧ Inv w0 w' bm n D ((b, .int .i64 x) :: L) := by
  refine Calls.mono (R := fun e w' => e = .returned (clo 112 w.heap.size) ∧ w' = w.alloc (.cells #[.int .i64 x] 3)) ?_ fun e w' ⟨he, hw⟩ => ⟨_, he, by rw [hw]; exact H.box _ _⟩
  clear H
  go_enter Tryz.func84, Tryz.ntmps84
  go_wp2
  go_ret
  exact ⟨rfl, rfl⟩
theorem arithmetic_any (f : Nat) (c : Array Value) : Calls Tryz.prog 86 #[.func (.func f) #[] c] w fun e w' => ∃ b, e = .returned (clo 117 b) ∧ Inv w0 w' bm n D ((b, .func (.func f) #[] c) :: L) := by
  refine Calls.mono (R := fun e w' => e = .returned (clo 117 w.heap.size) ∧ w' = w.alloc (.cells #[.func (.func f) #[] c] 130)) ?_ fun e w' ⟨he, hw⟩ => ⟨_, he, by rw [hw]; exact H.box _ _⟩
  clear H
  go_enter Tryz.func86, Tryz.ntmps86
  go_wp2
  go_ret
  exact ⟨rfl, rfl⟩
theorem divided_any (f : Nat) : Calls Tryz.prog 90 #[fnV f] w fun e w' => ∃ b, e = .returned (clo 119 b) ∧ Inv w0 w' bm n D ((b, fnV f) :: L) := by
  refine Calls.mono (R := fun e w' => e = .returned (clo 119 w.heap.size) ∧ w' = w.alloc (.cells #[fnV f] 96)) ?_ fun e w' ⟨he, hw⟩ => ⟨_, he, by rw [hw]; exact H.box _ _⟩
  clear H
  go_enter Tryz.func90, Tryz.ntmps90
  go_wp2
  go_ret
  exact ⟨rfl, rfl⟩
end

/-- The map in block bm is the table of the operators. -/
def BinMap (w0 w : World) (bm : Nat) : Prop := ∃ b7 b8 b9 b10 b11 b12 b13 b14 b16 b17 c18 b18 c19 b19 : Nat,
  Inv w0 w bm 13 (.map [(.int .i64 7, .held (clo 110 b7)), (.int .i64 8, .held (clo 110 b8)), (.int .i64 9, .held (clo 111 b9)), (.int .i64 10, .held (clo 111 b10)),
    (.int .i64 11, .held (clo 112 b11)), (.int .i64 12, .held (clo 112 b12)), (.int .i64 13, .held (clo 112 b13)), (.int .i64 14, .held (clo 112 b14)), (.int .i64 15, .held (fnV 85)),
    (.int .i64 16, .held (clo 117 b16)), (.int .i64 17, .held (clo 117 b17)), (.int .i64 18, .held (clo 117 b18)), (.int .i64 19, .held (clo 117 b19))])
    [(b19, clo 119 c19), (c19, fnV 92), (b18, clo 119 c18), (c18, fnV 91), (b17, fnV 89), (b16, fnV 87), (b14, .int .i64 14), (b13, .int .i64 13), (b12, .int .i64 12), (b11, .int .i64 11), (b10, .bool false), (b9, .bool true), (b8, .int .i64 8), (b7, .int .i64 7)]

def BinPost (w0 : World) (e : Ending) (w : World) : Prop := ∃ bm, e = .returned (.map (some bm)) ∧ BinMap w0 w bm

set_option maxRecDepth 100000 in
theorem binaries_any (w : World) : Calls Tryz.prog 50 #[] w (BinPost w) := by
  have hmm := @run_makeMap Tryz.prog
  go_enter Tryz.func50, Tryz.ntmps50
  have H := Inv.start w
  have HL := keysBelow_nil 7
  go_wp2_with (first
    | (go_at_call 82; refine (lazy_any H _).mono ?_; clear H; rintro e w1 ⟨b1, rfl, H⟩)
    | (go_at_call 83; refine (equality_any H _).mono ?_; clear H; rintro e w1 ⟨b1, rfl, H⟩)
    | (go_at_call 84; refine (order_any H _).mono ?_; clear H; rintro e w1 ⟨b1, rfl, H⟩)
    | (go_at_call 86; refine (arithmetic_any H _ _).mono ?_; clear H; rintro e w1 ⟨b1, rfl, H⟩)
    | (go_at_call 90; refine (divided_any H _).mono ?_; clear H; rintro e w1 ⟨b1, rfl, H⟩)
    | (refine wpList_insert_inv rfl _ _ _ rfl _ _ _ _ H rfl (by unfold maxLen; omega) _ _ rfl rfl (by decide) HL ?_; clear H HL; intro w1 H HL))
  go_ret
  exact ⟨_, rfl, _, _, _, _, _, _, _, _, _, _, _, _, _, _, H⟩
end Go.Proofs.YtjacdlglbjnoeaaGreatDoor
