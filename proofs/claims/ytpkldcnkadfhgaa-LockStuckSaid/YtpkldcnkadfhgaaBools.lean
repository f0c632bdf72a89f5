/- Maps of numbers to bools in memory; their keys, sorted. -/
import Derived.Test.YtpkldcnkadfhgaaAlike
import Derived.Maps.RangeWalk
namespace Go.Proofs
open Go.Shelf
def Try.keysB_ren : Go.Shelf.Ren := ⟨fun | 7 => 66 | 10 => 83 | n => n, fun | 23 => 108 | 26 => 3 | 3 => 4 | 28 => 88 | 0 => 0 | 27 => 87 | 33 => 48 | 4 => 4 | n => n, fun | n => n⟩
theorem Try.keysB : Go.Proofs.SlLaysZI.n7 Try.prog Try.keysB_ren := {
  mixed := by kernel_rfl
  f7 := ⟨Try.f66.name, by decide, Try.func66.trans (congrArg some (by kernel_rfl))⟩
  f10 := ⟨Try.f83.name, by decide, Try.func83.trans (congrArg some (by kernel_rfl))⟩
  t0 := Try.underlying0
  a0 := Try.isAgg0
  z0 := Try.sizeOf0
  v0 := Try.zeroValue0
  t4 := Try.underlying4
  a4 := Try.isAgg4
  z4 := Try.sizeOf4
  v4 := Try.zeroValue4
  t23 := Try.underlying108
  a23 := Try.isAgg108
  z23 := Try.sizeOf108
  v23 := Try.zeroValue108
  t26 := Try.underlying3
  a26 := Try.isAgg3
  z26 := Try.sizeOf3
  v26 := Try.zeroValue3
  t27 := Try.underlying87
  a27 := Try.isAgg87
  z27 := Try.sizeOf87
  v27 := Try.zeroValue87
  t28 := Try.underlying88
  a28 := Try.isAgg88
  z28 := Try.sizeOf88
  v28 := Try.zeroValue88
  t33 := Try.underlying48
  a33 := Try.isAgg48
  z33 := Try.sizeOf48
  v33 := Try.zeroValue48 }
end Go.Proofs
namespace Go.Proofs.Ytpkldcnkadfhgaa
open Go.RowKit Go.Shelf

/-- What a map of bools reads as: all true. -/
def mapBE (l : Lk.KV) : List (Lit × DataW Unit) := l.map fun p => (.int .i64 p.1, .lit (.bool true))
def mapBD (l : Lk.KV) : DataW Unit := .map (mapBE l)
theorem mapBE_del (l : Lk.KV) (k : Int) : (mapBE l).filter (ChangeMaps.notKey (.int .i64 k)) = mapBE (Lk.kdel k l) := by
  induction l with
  | nil => rfl
  | cons p r ih =>
    obtain ⟨a, b⟩ := p
    have e : mapBE ((a, b) :: r) = (.int .i64 a, .lit (.bool true)) :: mapBE r := rfl
    have n : ChangeMaps.notKey (H := Unit) (.int .i64 k) (.int .i64 a, .lit (.bool true)) = !decide (a = k) := by simp [ChangeMaps.notKey, same_int]
    rw [e, List.filter_cons, n]
    by_cases h : a = k
    · simp [h, ih, Lk.kdel]
    · have e2 : Lk.kdel k ((a, b) :: r) = (a, b) :: Lk.kdel k r := by simp [Lk.kdel, h]
      rw [e2]
      simp only [h, decide_false, Bool.not_false, if_true, ih]
      rfl
theorem mapBE_ins (x : Int × Int) (l : Lk.KV) : DataW.insert (.int .i64 x.1, .lit (.bool true)) (mapBE l) = mapBE (Lk.kins x l) := by
  induction l with
  | nil => rfl
  | cons p r ih =>
    have e : mapBE (p :: r) = (.int .i64 p.1, .lit (.bool true)) :: mapBE r := rfl
    rw [e]
    unfold DataW.insert Lk.kins
    simp only [Lit.before, decide_eq_true_eq]
    split
    · rfl
    · rw [ih]; rfl
theorem mapBD_put (l : Lk.KV) (k v : Int) : (mapBD l).put (.int .i64 k) (.lit (.bool true)) = mapBD (Lk.kput k v l) := by
  unfold mapBD
  rw [DataW.put_eq]
  unfold ChangeMaps.putKey
  rw [mapBE_del, mapBE_ins (k, v)]
  rfl
/-- Block b is a map of bools, all true. -/
def MapB (W : World) (b : Nat) (l : Lk.KV) : Prop := W.ownsMap Try.prog 3 (plainElem (H := Unit) Try.prog 4) b l.length (mapBD l)
section
variable {W W' : World} {b n : Nat} {l : Lk.KV}
theorem MapB.of (h : W.ownsMap Try.prog 3 (plainElem (H := Unit) Try.prog 4) b n (mapBD l)) : MapB W b l := by
  obtain ⟨es, clock, hb, F, hs, hD⟩ := h
  refine ⟨es, clock, hb, F, ?_, hD⟩
  have h1 : Maps.size (mapBD l) = l.length := by simp [mapBD, mapBE, Maps.size]
  rw [hD] at h1
  simp [Maps.size, length_sorted] at h1
  omega
theorem MapB.lt (h : MapB W b l) : b < W.heap.size := World.ownsMap.lt h
theorem MapB.of_eq (h : MapB W b l) (hb : W'.heap[b]? = W.heap[b]?) : MapB W' b l := by
  obtain ⟨es, clock, h1, F, hs, hD⟩ := h
  exact ⟨es, clock, hb.trans h1, F, hs, hD⟩
theorem MapB.fr (h : MapB W b l) {S : Nat → Prop} (hf : Fr S W W') (hn : ¬ S b) : MapB W' b l := h.of_eq (hf.block b h.lt hn)
theorem MapB.below (h : MapB W b l) (hb : Below W.heap.size W W') : MapB W' b l := h.of_eq (hb.block b h.lt)
theorem MapB.alloc (h : MapB W b l) (o : Obj) : MapB (W.alloc o) b l := h.below (one _ _)
theorem MapB.new (W : World) : MapB (W.alloc (.map #[] 0)) W.heap.size [] := World.ownsMap_made W _ _ _
end
theorem intKeys_mapBD (l : Lk.KV) : intKeys (mapBD l) = l.map (·.1) := by
  unfold mapBD mapBE intKeys
  simp only [List.map_map]
  apply List.map_congr_left
  intro p _
  rfl
theorem size_mapBD (l : Lk.KV) : Maps.size (mapBD l) = l.length := by simp [mapBD, mapBE, Maps.size]

theorem keysB_any (mb : Option Nat) (W : World) : Calls Try.prog 66 #[.map mb] W fun e w' => e = .returned (.func (.func 83) #[] #[.pointer (some ⟨W.heap.size, 0, none⟩)]) ∧ w' = W.alloc (.cells #[.map mb] 108) :=
  (callsIn_wide (n := 6)).1 (AnyZI.keys_in Try.keysB Fence.wide 6 trivial rfl mb W)
theorem sortedB_any (hb : Nat) (l : Lk.KV) (W : World) (h : MapB W hb l) (ha : Lk.Asc l) (hl : l.length ≤ 2000000) :
    Calls Try.prog 47 #[.func (.func 83) #[] #[.pointer (some ⟨W.heap.size, 0, none⟩)]] (W.alloc (.cells #[.map (some hb)] 108)) (lineNew (W.alloc (.cells #[.map (some hb)] 108)) (l.map (·.1))) := by
  have hbl := h.lt
  have hmx : l.length ≤ maxLen := by unfold maxLen; omega
  have hseq : SeqGives Fence.wide 2 Try.prog 83 #[.pointer (some ⟨W.heap.size, 0, none⟩)] encZ (fun ss => ss.Perm (intKeys (mapBD l))) (Maps.size (mapBD l)) (W.alloc (.cells #[.map (some hb)] 108)) :=
    AnyZI.keys_gives (ρ := Try.keysB_ren) { Try.keysB with } Fence.wide _ trivial rfl (by omega) W.heap.size hb l.length (mapBD l) _ (by simp) (by simp) (h.alloc _)
  have cS := AnyZI.sorted_in Try.sortedA Fence.wide 5 trivial trivial trivial trivial rfl (by omega) (sortsA _) (enters_of Try.func29 (by kernel_rfl) rfl) 83 #[.pointer (some ⟨W.heap.size, 0, none⟩)] trivial (enters_of Try.func83 (by kernel_rfl) rfl) _ _ (by rw [size_mapBD]; exact hmx) (by rw [size_mapBD]; omega) _ hseq
  refine ((callsIn_wide (n := 5)).1 cS).mono ?_
  rintro e w' ⟨v, ss, rfl, hS, hrow, hnil, hbel⟩
  rw [intKeys_mapBD] at hS
  rw [asc_keys ha hS] at hrow
  refine ⟨v, rfl, line_of_row hrow (hS.length_eq), fun k hk => (hrow.lt k hk).1, hbel⟩
end Go.Proofs.Ytpkldcnkadfhgaa
