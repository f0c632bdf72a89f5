/- The keys of a map of numbers, sorted. -/
import Derived.Test.YtpkldcnkadfhgaaLib1
namespace Go.Proofs.Ytpkldcnkadfhgaa
open Go.RowKit Go.Shelf

theorem sortsA (m : Nat) : AnyZI.SortsIn Try.prog Try.sortedA_ren Fence.wide m :=
  ⟨fun blk off cap ss W hH hblk hsz => callsIn_wide.2 (AnyM.slices_Sort_int Try.sortA blk off cap ss W hH hblk hsz),
   fun p cap W => callsIn_wide.2 (AnyM.slices_Sort_int_none Try.sortA p cap W)⟩

theorem keys_any (mb : Option Nat) (W : World) : Calls Try.prog 48 #[.map mb] W fun e w' => e = .returned (.func (.func 68) #[] #[.pointer (some ⟨W.heap.size, 0, none⟩)]) ∧ w' = W.alloc (.cells #[.map mb] 66) :=
  (callsIn_wide (n := 6)).1 (AnyZI.keys_in Try.keysA Fence.wide 6 trivial rfl mb W)

theorem asc_keys {l : Lk.KV} (h : Lk.Asc l) {ss : List Int} (hp : ss.Perm (l.map (·.1))) : ss.mergeSort (fun x y => decide (x ≤ y)) = l.map (·.1) := by
  have hs : (l.map (·.1)).Pairwise (fun x y => decide (x ≤ y) = true) := by
    rw [List.pairwise_map]
    exact h.imp fun hlt => by simp; omega
  have e1 : ss.mergeSort leI = (l.map (·.1)).mergeSort leI := mergeSort_of_perm_i hp
  have e2 : (l.map (·.1)).mergeSort leI = l.map (·.1) := List.mergeSort_of_pairwise hs
  exact e1.trans e2
theorem intKeys_mapD (l : Lk.KV) : intKeys (mapD l) = l.map (·.1) := by
  unfold mapD mapE intKeys
  simp only [List.map_map]
  apply List.map_congr_left
  intro p _
  rfl
theorem size_mapD (l : Lk.KV) : Maps.size (mapD l) = l.length := by simp [mapD, mapE, Maps.size]

theorem sorted_any (hb : Nat) (l : Lk.KV) (W : World) (h : MapIs W hb l) (ha : Lk.Asc l) (hl : l.length ≤ 2000000) :
    Calls Try.prog 47 #[.func (.func 68) #[] #[.pointer (some ⟨W.heap.size, 0, none⟩)]] (W.alloc (.cells #[.map (some hb)] 66)) (lineNew (W.alloc (.cells #[.map (some hb)] 66)) (l.map (·.1))) := by
  have hbl := h.lt
  have hmx : l.length ≤ maxLen := by unfold maxLen; omega
  have hseq : SeqGives Fence.wide 2 Try.prog 68 #[.pointer (some ⟨W.heap.size, 0, none⟩)] encZ (fun ss => ss.Perm (intKeys (mapD l))) (Maps.size (mapD l)) (W.alloc (.cells #[.map (some hb)] 66)) :=
    AnyZI.keys_gives (ρ := Try.keysA_ren) { Try.keysA with } Fence.wide _ trivial rfl (by omega) W.heap.size hb l.length (mapD l) _ (by simp) (by simp) (h.alloc _)
  have cS := AnyZI.sorted_in Try.sortedA Fence.wide 5 trivial trivial trivial trivial rfl (by omega) (sortsA _) (enters_of Try.func29 (by kernel_rfl) rfl) 68 #[.pointer (some ⟨W.heap.size, 0, none⟩)] trivial (enters_of Try.func68 (by kernel_rfl) rfl) _ _ (by rw [size_mapD]; exact hmx) (by rw [size_mapD]; omega) _ hseq
  refine ((callsIn_wide (n := 5)).1 cS).mono ?_
  rintro e w' ⟨v, ss, rfl, hS, hrow, hnil, hbel⟩
  rw [intKeys_mapD] at hS
  rw [asc_keys ha hS] at hrow
  refine ⟨v, rfl, line_of_row hrow (hS.length_eq), fun k hk => (hrow.lt k hk).1, hbel⟩
end Go.Proofs.Ytpkldcnkadfhgaa
