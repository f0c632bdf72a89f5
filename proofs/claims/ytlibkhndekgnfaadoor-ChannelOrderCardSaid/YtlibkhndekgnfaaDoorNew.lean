/- What New does. -/
import Derived.Test.YtlibkhndekgnfaaDoorTake
namespace Go.Proofs.YtlibkhndekgnfaaDoor
open Go.RowKit

def newSt (k : Nat) (p : Int) : Cn.St := ⟨k, p, false, [], [], 0⟩

set_option maxRecDepth 100000 in
set_option maxHeartbeats 4000000 in
theorem new_bad (k p : Int) (w : World) (h : k < 0 ∨ 16 < k ∨ p < 0 ∨ 2 < p) :
    Calls Tryd.prog 10 #[.int .i64 k, .int .i64 p] w fun e w' => e = .returned (.tuple #[.pointer none, .int .i64 2]) ∧ w = w' := by
  rcases h with h | h | h | h
  · go_enter Tryd.func10, Tryd.ntmps10
    go_wp2
    go_ret2
    exact ⟨rfl, rfl⟩
  · by_cases h0 : k < 0
    all_goals
      go_enter Tryd.func10, Tryd.ntmps10
      go_wp2
      go_ret2
      exact ⟨rfl, rfl⟩
  · by_cases h0 : k < 0
    · go_enter Tryd.func10, Tryd.ntmps10
      go_wp2
      go_ret2
      exact ⟨rfl, rfl⟩
    · by_cases h1 : 16 < k
      all_goals
        go_enter Tryd.func10, Tryd.ntmps10
        go_wp2
        go_ret2
        exact ⟨rfl, rfl⟩
  · by_cases h0 : k < 0
    · go_enter Tryd.func10, Tryd.ntmps10
      go_wp2
      go_ret2
      exact ⟨rfl, rfl⟩
    · by_cases h1 : 16 < k
      · go_enter Tryd.func10, Tryd.ntmps10
        go_wp2
        go_ret2
        exact ⟨rfl, rfl⟩
      · by_cases h2 : p < 0
        all_goals
          go_enter Tryd.func10, Tryd.ntmps10
          go_wp2
          go_ret2
          exact ⟨rfl, rfl⟩

theorem one_of_all {a : Array Value} (h : a.toList.all (fun v => v.oneCell') = true) (o : Nat) (ho : o < a.size) : (a[o]?.getD undef).oneCell' = true := by
  rw [Array.getElem?_eq_getElem ho]
  exact List.all_eq_true.1 h _ (Array.getElem_mem_toList ho)

def newPost (w : World) (c : Cn.St) (e : Ending) (w' : World) : Prop :=
  e = .returned (.tuple #[.pointer (some ⟨w.heap.size, 0, none⟩), .int .i64 0]) ∧ Rep w' w.heap.size [] c ∧ Below w.heap.size w w'

set_option maxRecDepth 100000 in
set_option maxHeartbeats 4000000 in
theorem new_ok (k : Nat) (p : Int) (w : World) (hk : k ≤ 16) (hp : 0 ≤ p) (hp2 : p ≤ 2) :
    Calls Tryd.prog 10 #[.int .i64 k, .int .i64 p] w (newPost w (newSt k p)) := by
  go_enter Tryd.func10, Tryd.ntmps10
  go_wp2
  go_ret2
  refine ⟨rfl, ?_, one _ _⟩
  refine ⟨⟨_, 0, Blk.new w _ 79, ?_⟩, ⟨rfl, fun j m x hm _ => by simp at hm⟩, by simp⟩
  refine ⟨by omega, hk, Nat.zero_le _, ⟨hp, hp2⟩, rfl, rfl, rfl, rfl, rfl, rfl, rfl, fun o ho => ?_, fun i u hu => by simp [newSt] at hu⟩
  refine one_of_all ?_ o ho
  rfl
end Go.Proofs.YtlibkhndekgnfaaDoor
