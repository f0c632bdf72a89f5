/- What Withdraw does. -/
import Derived.Test.YtlibkhndekgnfaaDoorState
namespace Go.Proofs.YtlibkhndekgnfaaDoor
open Go.RowKit

def withdrawPost (w : World) (b : Nat) (ns : List Nat) (c : Cn.St) (t : Int) (e : Ending) (w' : World) : Prop :=
  ∃ ns', (∀ x ∈ ns', x ∈ ns) ∧ e = .returned (.bool (Cn.pick (fun x => x.t == t) c.wait).isSome) ∧ Rep w' b ns' { c with wait := Cn.rest (fun x => x.t == t) c.wait } ∧ Fr (b :: ns) w w'

set_option maxRecDepth 100000 in
set_option maxHeartbeats 4000000 in
theorem withdraw_any (b : Nat) (ns : List Nat) (c : Cn.St) (t : Int) (w : World) (h : Rep w b ns c) :
    Calls Tryd.prog 19 #[.pointer (some ⟨b, 0, none⟩), .int .i64 t] w (withdrawPost w b ns c t) := by
  have hmf : ∀ (fn : Fn) (first cap : Array Value) (w : World), (Instr.makeFunc fn first cap).run Tryd.prog w = .ok (.func fn first cap) w := fun _ _ _ _ => rfl
  have h0 := h.alloc (.cells #[.int .i64 t] 3)
  have hB : (w.alloc (.cells #[.int .i64 t] 3)).cell? ⟨w.heap.size, 0, none⟩ = some (.int .i64 t) := World.cell?_alloc_at _ _ _ _ rfl
  have hc : ∀ (x : Cn.Wt) (W : World), Below (w.alloc (.cells #[.int .i64 t] 3)).heap.size (w.alloc (.cells #[.int .i64 t] 3)) W → Calls Tryd.prog 46 #[wtV x.t x.send x.v.k x.v.n x.v.s, .pointer (some ⟨w.heap.size, 0, none⟩)] W fun e W' => e = .returned (.bool ((fun x : Cn.Wt => x.t == t) x)) ∧ Below W.heap.size W W' :=
    fun x W hb => isTicket_any x.t t x.send x.v.k x.v.n x.v.s w.heap.size W (cell_of hb hB) (by have := hb.size; simp at this; omega)
  cases hp : Cn.pick (fun x => x.t == t) c.wait with
  | none =>
    have RR := Lib.hid (removeT_none w.heap.size h0 hc hp)
    have HP := Lib.hid hp
    clear hc hB h0 h hp
    go_enter Tryd.func19, Tryd.ntmps19
    go_wp2_with fail
    refine RR.out.mono ?_
    rintro e w1 ⟨rfl, ns', hs, hR, hF⟩
    have HR := Lib.hid hR
    have HF := Lib.hid hF
    have HS := Lib.hid hs
    clear hR hF hs
    go_wp2
    go_ret
    exact ⟨ns', HS.out, by rw [HP.out]; rfl, by rw [show Cn.rest (fun x => x.t == t) c.wait = c.wait by simp [Cn.rest, HP.out]]; exact HR.out.alloc _, (((Fr.refl _ _).alloc _).trans HF.out).alloc _⟩
  | some xr =>
    obtain ⟨x, r⟩ := xr
    have RR := Lib.hid (removeT_some w.heap.size h0 hc hp)
    have HP := Lib.hid hp
    clear hc hB h0 h hp
    go_enter Tryd.func19, Tryd.ntmps19
    go_wp2_with fail
    refine RR.out.mono ?_
    rintro e w1 ⟨rfl, ns', hs, hR, hF⟩
    have HR := Lib.hid hR
    have HF := Lib.hid hF
    have HS := Lib.hid hs
    clear hR hF hs
    go_wp2
    go_ret
    exact ⟨ns', HS.out, by rw [HP.out]; rfl, by rw [show Cn.rest (fun x => x.t == t) c.wait = r by simp [Cn.rest, HP.out]]; exact HR.out.alloc _, (((Fr.refl _ _).alloc _).trans HF.out).alloc _⟩
end Go.Proofs.YtlibkhndekgnfaaDoor
