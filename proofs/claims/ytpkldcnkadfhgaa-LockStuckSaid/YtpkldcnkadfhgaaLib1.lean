/- Library functions over lists of numbers in memory. -/
import Derived.Test.YtpkldcnkadfhgaaFrame
import Derived.Test.YtpkldcnkadfhgaaShelf
namespace Go.Proofs.Ytpkldcnkadfhgaa
open Go.RowKit

theorem setCells_heap {b : Nat} {t : TypeId} : ∀ (vs : List Value) (o : Nat) (w : World) (cur : Array Value), w.heap[b]? = some (.cells cur t (0, 0)) →
    ∃ cur', (w.setCells b o vs).heap[b]? = some (.cells cur' t (0, 0)) ∧ cur'.size = cur.size ∧ ∀ j, j < cur.size → cur'[j]? = if o ≤ j ∧ j < o + vs.length then vs[j - o]? else cur[j]?
  | [], o, w, cur, h => ⟨cur, h, rfl, fun j _ => by rw [if_neg (by rintro ⟨h1, h2⟩; simp at h2; omega)]⟩
  | v :: vs, o, w, cur, h => by
    have h1 : (w.setCell ⟨b, o, none⟩ v).heap[b]? = some (.cells (cur.setIfInBounds o v) t (0, 0)) := by
      rw [setCell_eq_setRow w b o cur t (0, 0) v h]
      exact setRow_heap w b cur _ t _ h
    obtain ⟨cur', g1, g2, g3⟩ := setCells_heap vs (o + 1) _ _ h1
    refine ⟨cur', g1, by simpa using g2, fun j hj => ?_⟩
    rw [g3 j (by simpa using hj)]
    by_cases hjo : j = o
    · subst hjo
      rw [if_neg (by omega), if_pos (by simp)]
      simp [hj]
    · by_cases hin : o + 1 ≤ j ∧ j < o + 1 + vs.length
      · rw [if_pos hin, if_pos (by simp; omega)]
        have : j - o = (j - (o + 1)) + 1 := by omega
        rw [this]; simp
      · rw [if_neg hin, if_neg (by simp; omega)]
        rw [Array.getElem?_setIfInBounds_ne (Ne.symm hjo)]
theorem setCells_fr {b : Nat} : ∀ (vs : List Value) (o : Nat) (w : World), Fr (fun x => x = b) w (w.setCells b o vs)
  | [], _, w => Fr.refl _ _
  | v :: vs, o, w => (Fr.set (S := fun x => x = b) (Fr.refl _ _) (.inl rfl) o v).trans (setCells_fr vs (o + 1) _)

theorem line_cells {w : World} {g off n cap : Nat} {L : List Int} (h : Line w (.slice (some ⟨g, off, none⟩) n cap) L) : ∀ j, j < L.length → w.cell? ⟨g, off + j, none⟩ = some (.int .i64 (L.getD j 0)) := fun j hj => by
  refine h.cell ?_
  rw [List.getD_eq_getElem?_getD, List.getElem?_eq_getElem hj]; rfl

theorem index_line (w : World) (v : Value) (L : List Int) (x : Int) (h : Line w v L) (hl : L.length ≤ 2000000) : Calls Try.prog 51 #[v, .int .i64 x] w fun e w' => e = .returned (.int .i64 (Lib.idxOf L x)) ∧ w' = w := by
  obtain ⟨p, cap, rfl, -, -, hp⟩ := h.form
  by_cases h0 : L.length = 0
  · have hn := List.eq_nil_of_length_eq_zero h0
    subst hn
    exact Any.slices_Index_int_empty Try.lays108 p cap x w
  · obtain ⟨g, off, rfl, -⟩ := hp (by omega)
    have := Any.slices_Index_int Try.lays108 g off L.length cap L x w (Nat.le_refl _) (by omega) (line_cells h)
    rw [List.take_length] at this
    exact this
theorem contains_line (w : World) (v : Value) (L : List Int) (x : Int) (h : Line w v L) (hl : L.length ≤ 2000000) : Calls Try.prog 24 #[v, .int .i64 x] w fun e w' => e = .returned (.bool (L.contains x)) ∧ w' = w := by
  obtain ⟨p, cap, rfl, -, -, hp⟩ := h.form
  by_cases h0 : L.length = 0
  · have hn := List.eq_nil_of_length_eq_zero h0
    subst hn
    exact Any.slices_Contains_int_empty Try.lays107 p cap x w
  · obtain ⟨g, off, rfl, -⟩ := hp (by omega)
    have := Any.slices_Contains_int Try.lays107 g off L.length cap L x w (Nat.le_refl _) (by omega) (line_cells h)
    rw [List.take_length] at this
    exact this
theorem line_of_row {w : World} {b n : Nat} {v : Value} {L : List Int} (h : w.ownsRow b 3 1 v n (L.map (Value.int .i64))) (hn : n = L.length) : Line w v L := by
  rcases h.2 with ⟨rfl, h0⟩ | ⟨g, cap, cur, rfl, _, hg, h1, h2, h3, h4⟩
  · exact .inl ⟨rfl, List.eq_nil_of_length_eq_zero (by omega)⟩
  · subst hn
    refine .inr ⟨g, 0, cap, cur, rfl, h1, h2, hg, by omega, fun i x hx => ?_⟩
    have hi : i < L.length := (List.getElem?_eq_some_iff.1 hx).1
    have : (L.map (Value.int .i64))[i]? = some (.int .i64 x) := by rw [List.getElem?_map, hx]; rfl
    rw [← h4, List.getElem?_take, if_pos (by omega), Array.getElem?_toList] at this
    rw [Nat.zero_add]; exact this
/-- A list of its own. -/
def lineNew (w : World) (L : List Int) (e : Ending) (w' : World) : Prop := ∃ v', e = .returned v' ∧ Line w' v' L ∧ (∀ k, v'.ownBlock = some k → w.heap.size ≤ k) ∧ Below w.heap.size w w'
theorem clone_line (w : World) (v : Value) (L : List Int) (h : Line w v L) (hl : L.length ≤ 2000000) : Calls Try.prog 64 #[v] w (lineNew w L) := by
  obtain ⟨p, cap, rfl, -, -, hp⟩ := h.form
  cases p with
  | none =>
    have hn : L.length = 0 := by
      by_cases h0 : 0 < L.length
      · obtain ⟨g, off, e, -⟩ := hp h0; cases e
      · omega
    have hn' := List.eq_nil_of_length_eq_zero hn
    refine (Any.slices_Clone_int_nil Try.lays15 L.length cap w).mono ?_
    rintro e w' ⟨rfl, rfl⟩
    subst hn'
    exact ⟨_, rfl, Line.nil _, fun k hk => by simp [Value.ownBlock] at hk, Below.refl _ _⟩
  | some a =>
    by_cases h0 : 0 < L.length
    · obtain ⟨g, off, e, -⟩ := hp h0
      cases e
      have hc := Any.slices_Clone_int Try.lays15 g off L.length cap L w (Nat.le_refl _) (by omega) (line_cells h)
      rw [List.take_length] at hc
      refine hc.mono ?_
      rintro e w' ⟨v', rfl, hr, -, hb⟩
      exact ⟨v', rfl, line_of_row hr rfl, fun k hk => (hr.lt k hk).1, hb⟩
    · have hn' : L = [] := List.eq_nil_of_length_eq_zero (by omega)
      subst hn'
      refine (Any.slices_Clone_int_zero Try.lays15 a cap w).mono ?_
      rintro e w' ⟨v', rfl, hr, -, hb⟩
      exact ⟨v', rfl, line_of_row hr rfl, fun k hk => (hr.lt k hk).1, hb⟩

/-- One number is taken out. -/
theorem delete_line (w : World) (v : Value) (L : List Int) (i : Nat) (h : Line w v L) (hi : i < L.length) (hl : L.length ≤ 2000000) : Calls Try.prog 65 #[v, .int .i64 i, .int .i64 (i + 1 : Nat)] w fun e w' =>
    ∃ v', e = .returned v' ∧ v'.ownBlock = v.ownBlock ∧ Line w' v' (L.eraseIdx i) ∧ Fr (fun k => v.ownBlock = some k) w w' := by
  rcases h with ⟨-, rfl⟩ | ⟨g, off, cap, cur, rfl, h1, h2, hg, h3, h4⟩
  · simp at hi
  · have hL : Line w (.slice (some ⟨g, off, none⟩) L.length cap) L := .inr ⟨g, off, cap, cur, rfl, h1, h2, hg, h3, h4⟩
    have hmx : maxLen ≤ 9223372036854775807 := by unfold maxLen; omega
    have hd := Any.slices_Delete_int_cells Try.lays23 g off L.length cap i (i + 1) L w (Nat.le_refl _) h1 (by omega) (by omega) (by omega) (line_cells hL) (fun j _ => by simp [World.frozen?, hg])
    rw [List.take_length] at hd
    refine hd.mono ?_
    rintro e w' ⟨rfl, q, rfl⟩
    have he : L.take i ++ L.drop (i + 1) = L.eraseIdx i := (List.eraseIdx_eq_take_drop_succ L i).symm
    obtain ⟨cur', g1, g2, g3⟩ := setCells_heap (b := g) (t := 3) (((L.take i ++ L.drop (i + 1) ++ List.replicate (i + 1 - i) 0).map (Value.int .i64))) off (w.drewN q) cur hg
    refine ⟨_, rfl, rfl, .inr ⟨g, off, cap, cur', ?_, ?_, h2, g1, by omega, fun j x hx => ?_⟩, ?_⟩
    · rw [List.length_eraseIdx, if_pos hi]; congr 1; omega
    · rw [List.length_eraseIdx, if_pos hi]; omega
    · have hj : j < (L.eraseIdx i).length := (List.getElem?_eq_some_iff.1 hx).1
      rw [List.length_eraseIdx, if_pos hi] at hj
      rw [g3 (off + j) (by omega), if_pos ⟨by omega, by simp; omega⟩, List.getElem?_map, List.getElem?_append_left (by simp; omega), he, Nat.add_sub_cancel_left, hx]
      rfl
    · exact (setCells_fr _ off (w.drewN q)).widen (fun x hx _ => by subst hx; rfl) |> fun h => ⟨h.os, h.tape, h.output, h.size, h.block⟩
end Go.Proofs.Ytpkldcnkadfhgaa
