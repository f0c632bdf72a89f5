/-
  No cell of these rows narrows 'for every input' (looked for: loops, veiled, ifaces, maps, wideKeys, modest, calm, conditions, laid).
  DERIVED. THE GIVEN ROWS OF THIS SEAT. 7 by the template 'for every input the law returns true; each argument reads behind the call as it read before'; 0 by the template 'total and deterministic' (their statements: YtpkldcnkadfhgaaTotals.lean).
  GIVEN WITH THE SEED: the statements are not yours to turn. If you find one false, say at which input.
  Laid BY PROGRAM, IN A SANDBOX (cutbox-rows.mjs): the forced cells as the released guide's own fill.sh prints them over the translation d6c03d350aa11f3e… (all of the seat's roots in one cut). By AI agents, Wed Nov 11 2026. No macro, syntax, notation, axiom, sorry.
-/
import Derived.Test.YtpkldcnkadfhgaaChecked
import GoSem.Claim
import GoSem.ClaimJoined
import GoSem.ClaimMapViews
import Derived.JoinedTies
import Derived.KernelRfl
namespace Go.Proofs.Ytpkldcnkadfhgaa
/- THE CELL 'sum', in the pinned program and in every row, IS THE sha256 OF THE DUMP (.gsa) THAT YtpkldcnkadfhgaaProg.lean LOADS. Nothing in Lean hashes anything: it is a label: what it is worth is what the hold of that sum in a sandbox is worth. -/
noncomputable def Try.pinned : Pinned := { name := "ytpkldcnkadfhgaa", sum := "d6c03d350aa11f3e3208292276c45510cbbd1a4ae469cdbf6f0e1efcf63cecc7", checked := Try.checked }
namespace Rows
def none {H : Type} : Left H := { results := [], args := [] }

/-- 'seedbedlaw18.LockPlays': WHATEVER THE INPUT: true; the input reads as it did. -/
def lockPlaysSpec : ChangeSpec := { name := "lockPlays", fn := fun _ => fun
  | [d] => { results := [.lit (.bool true)], args := [d] }
  | _ => none }
def lockPlaysRow : OpenClaim := { program := "ytpkldcnkadfhgaa", sum := "d6c03d350aa11f3e3208292276c45510cbbd1a4ae469cdbf6f0e1efcf63cecc7", func := "seedbed/seedbedlaw18.LockPlays", spec := "lockPlays", inPlace := ["maps.clone"], unfollowed := true, recurses := true, apart := false }
def LockPlaysSaid : Prop := lockPlaysRow.holds Try.pinned (OpenSpec.ofChange lockPlaysSpec)

/-- ITS FALSE NEIGHBOUR: 'it returns false'. Refute it at one input. -/
def lockPlaysWrong : ChangeSpec := { name := "lockPlays", fn := fun _ => fun
  | [d] => { results := [.lit (.bool false)], args := [d] }
  | _ => none }
def LockPlaysWrongFalsely : Prop := lockPlaysRow.holds Try.pinned (OpenSpec.ofChange lockPlaysWrong)

/-- 'seedbedlaw18.LockNobody': WHATEVER THE INPUT: true; the input reads as it did. -/
def lockNobodySpec : ChangeSpec := { name := "lockNobody", fn := fun _ => fun
  | [d1, d2] => { results := [.lit (.bool true)], args := [d1, d2] }
  | _ => none }
def lockNobodyRow : OpenClaim := { program := "ytpkldcnkadfhgaa", sum := "d6c03d350aa11f3e3208292276c45510cbbd1a4ae469cdbf6f0e1efcf63cecc7", func := "seedbed/seedbedlaw18.LockNobody", spec := "lockNobody", inPlace := ["maps.clone"], unfollowed := true, recurses := true, apart := false }
def LockNobodySaid : Prop := lockNobodyRow.holds Try.pinned (OpenSpec.ofChange lockNobodySpec)

/-- ITS FALSE NEIGHBOUR: 'it returns false'. Refute it at one input. -/
def lockNobodyWrong : ChangeSpec := { name := "lockNobody", fn := fun _ => fun
  | [d1, d2] => { results := [.lit (.bool false)], args := [d1, d2] }
  | _ => none }
def LockNobodyWrongFalsely : Prop := lockNobodyRow.holds Try.pinned (OpenSpec.ofChange lockNobodyWrong)

/-- 'seedbedlaw18.LockBalance': WHATEVER THE INPUT: true; the input reads as it did. -/
def lockBalanceSpec : ChangeSpec := { name := "lockBalance", fn := fun _ => fun
  | [d] => { results := [.lit (.bool true)], args := [d] }
  | _ => none }
def lockBalanceRow : OpenClaim := { program := "ytpkldcnkadfhgaa", sum := "d6c03d350aa11f3e3208292276c45510cbbd1a4ae469cdbf6f0e1efcf63cecc7", func := "seedbed/seedbedlaw18.LockBalance", spec := "lockBalance", unfollowed := true, recurses := true, apart := false }
def LockBalanceSaid : Prop := lockBalanceRow.holds Try.pinned (OpenSpec.ofChange lockBalanceSpec)

/-- ITS FALSE NEIGHBOUR: 'it returns false'. Refute it at one input. -/
def lockBalanceWrong : ChangeSpec := { name := "lockBalance", fn := fun _ => fun
  | [d] => { results := [.lit (.bool false)], args := [d] }
  | _ => none }
def LockBalanceWrongFalsely : Prop := lockBalanceRow.holds Try.pinned (OpenSpec.ofChange lockBalanceWrong)

/-- 'seedbedlaw18.LockOrder': WHATEVER THE INPUT: true; the input reads as it did. -/
def lockOrderSpec : ChangeSpec := { name := "lockOrder", fn := fun _ => fun
  | [d1, d2] => { results := [.lit (.bool true)], args := [d1, d2] }
  | _ => none }
def lockOrderRow : OpenClaim := { program := "ytpkldcnkadfhgaa", sum := "d6c03d350aa11f3e3208292276c45510cbbd1a4ae469cdbf6f0e1efcf63cecc7", func := "seedbed/seedbedlaw18.LockOrder", spec := "lockOrder", apart := false }
def LockOrderSaid : Prop := lockOrderRow.holds Try.pinned (OpenSpec.ofChange lockOrderSpec)

/-- ITS FALSE NEIGHBOUR: 'it returns false'. Refute it at one input. -/
def lockOrderWrong : ChangeSpec := { name := "lockOrder", fn := fun _ => fun
  | [d1, d2] => { results := [.lit (.bool false)], args := [d1, d2] }
  | _ => none }
def LockOrderWrongFalsely : Prop := lockOrderRow.holds Try.pinned (OpenSpec.ofChange lockOrderWrong)

/-- 'seedbedlaw18.LockStuck': WHATEVER THE INPUT: true; the input reads as it did. -/
def lockStuckSpec : ChangeSpec := { name := "lockStuck", fn := fun _ => fun
  | [d1, d2] => { results := [.lit (.bool true)], args := [d1, d2] }
  | _ => none }
def lockStuckRow : OpenClaim := { program := "ytpkldcnkadfhgaa", sum := "d6c03d350aa11f3e3208292276c45510cbbd1a4ae469cdbf6f0e1efcf63cecc7", func := "seedbed/seedbedlaw18.LockStuck", spec := "lockStuck", inPlace := ["maps.clone"], unfollowed := true, recurses := true, apart := false }
def LockStuckSaid : Prop := lockStuckRow.holds Try.pinned (OpenSpec.ofChange lockStuckSpec)

/-- ITS FALSE NEIGHBOUR: 'it returns false'. Refute it at one input. -/
def lockStuckWrong : ChangeSpec := { name := "lockStuck", fn := fun _ => fun
  | [d1, d2] => { results := [.lit (.bool false)], args := [d1, d2] }
  | _ => none }
def LockStuckWrongFalsely : Prop := lockStuckRow.holds Try.pinned (OpenSpec.ofChange lockStuckWrong)

/-- 'seedbedlaw18.LockFree': WHATEVER THE INPUT: true; the input reads as it did. -/
def lockFreeSpec : ChangeSpec := { name := "lockFree", fn := fun _ => fun
  | [d] => { results := [.lit (.bool true)], args := [d] }
  | _ => none }
def lockFreeRow : OpenClaim := { program := "ytpkldcnkadfhgaa", sum := "d6c03d350aa11f3e3208292276c45510cbbd1a4ae469cdbf6f0e1efcf63cecc7", func := "seedbed/seedbedlaw18.LockFree", spec := "lockFree", inPlace := ["maps.clone"], unfollowed := true, recurses := true, apart := false }
def LockFreeSaid : Prop := lockFreeRow.holds Try.pinned (OpenSpec.ofChange lockFreeSpec)

/-- ITS FALSE NEIGHBOUR: 'it returns false'. Refute it at one input. -/
def lockFreeWrong : ChangeSpec := { name := "lockFree", fn := fun _ => fun
  | [d] => { results := [.lit (.bool false)], args := [d] }
  | _ => none }
def LockFreeWrongFalsely : Prop := lockFreeRow.holds Try.pinned (OpenSpec.ofChange lockFreeWrong)

/-- 'seedbedlaw18.LockCopies': WHATEVER THE INPUT: true; the input reads as it did. -/
def lockCopiesSpec : ChangeSpec := { name := "lockCopies", fn := fun _ => fun
  | [d1, d2] => { results := [.lit (.bool true)], args := [d1, d2] }
  | _ => none }
def lockCopiesRow : OpenClaim := { program := "ytpkldcnkadfhgaa", sum := "d6c03d350aa11f3e3208292276c45510cbbd1a4ae469cdbf6f0e1efcf63cecc7", func := "seedbed/seedbedlaw18.LockCopies", spec := "lockCopies", inPlace := ["maps.clone"], unfollowed := true, recurses := true, apart := false }
def LockCopiesSaid : Prop := lockCopiesRow.holds Try.pinned (OpenSpec.ofChange lockCopiesSpec)

/-- ITS FALSE NEIGHBOUR: 'it returns false'. Refute it at one input. -/
def lockCopiesWrong : ChangeSpec := { name := "lockCopies", fn := fun _ => fun
  | [d1, d2] => { results := [.lit (.bool false)], args := [d1, d2] }
  | _ => none }
def LockCopiesWrongFalsely : Prop := lockCopiesRow.holds Try.pinned (OpenSpec.ofChange lockCopiesWrong)

/- THE SECOND FORM. 'bulk': how many values and letters a reading holds, each counted each time it is reached (what is shared counts as often as it is met; a slice's spare places count too). A statement '..UptoSaid' is the law's where the arguments, and the package variables that the reading takes, are together of bulk at most 1048576: NARROWER than '..Said'. Prove '..Said' where nothing that the law and all that it calls make is longer than what came in: it says more and counts as full. Else prove '..UptoSaid'. A law counts once. -/
mutual
def uptoBulk {H : Type} : DataW H → Nat
  | .lit (.string bytes) => bytes.length + 1
  | .lit _ => 1
  | .nil => 1
  | .ptr d => uptoBulk d + 1
  | .slice elems spare => uptoBulkAll elems + uptoBulkAll spare + 1
  | .agg parts => uptoBulkAll parts + 1
  | .iface _ d => uptoBulk d + 1
  | .map entries => uptoBulkEntries entries + 1
  | .held _ => 1
def uptoBulkAll {H : Type} : List (DataW H) → Nat
  | [] => 0
  | d :: r => uptoBulk d + uptoBulkAll r
def uptoBulkEntries {H : Type} : List (Lit × DataW H) → Nat
  | [] => 0
  | x :: r => uptoBulkEntry x + uptoBulkEntries r
def uptoBulkEntry {H : Type} : Lit × DataW H → Nat
  | (.string bytes, d) => bytes.length + uptoBulk d + 1
  | (_, d) => uptoBulk d + 1
 end
def uptoSmall : (H : Type) → List (DataW H) → Bool := fun _ ds => decide (uptoBulkAll ds ≤ 1048576)
def OpenSpec.upto (s : _root_.Go.ChangeSpec) : _root_.Go.OpenSpec := { _root_.Go.OpenSpec.ofChange s with cond := some uptoSmall }

/-- 'seedbedlaw18.LockPlays', WHERE WHAT IT READS IS OF BULK AT MOST 1048576: true; the input reads as it did. -/
def lockPlaysUptoRow : OpenClaim := { program := "ytpkldcnkadfhgaa", sum := "d6c03d350aa11f3e3208292276c45510cbbd1a4ae469cdbf6f0e1efcf63cecc7", func := "seedbed/seedbedlaw18.LockPlays", spec := "lockPlays", inPlace := ["maps.clone"], unfollowed := true, recurses := true, apart := false, narrowed := true }
def LockPlaysUptoSaid : Prop := lockPlaysUptoRow.holds Try.pinned (OpenSpec.upto lockPlaysSpec)

/-- 'seedbedlaw18.LockNobody', WHERE WHAT IT READS IS OF BULK AT MOST 1048576: true; the input reads as it did. -/
def lockNobodyUptoRow : OpenClaim := { program := "ytpkldcnkadfhgaa", sum := "d6c03d350aa11f3e3208292276c45510cbbd1a4ae469cdbf6f0e1efcf63cecc7", func := "seedbed/seedbedlaw18.LockNobody", spec := "lockNobody", inPlace := ["maps.clone"], unfollowed := true, recurses := true, apart := false, narrowed := true }
def LockNobodyUptoSaid : Prop := lockNobodyUptoRow.holds Try.pinned (OpenSpec.upto lockNobodySpec)

/-- 'seedbedlaw18.LockBalance', WHERE WHAT IT READS IS OF BULK AT MOST 1048576: true; the input reads as it did. -/
def lockBalanceUptoRow : OpenClaim := { program := "ytpkldcnkadfhgaa", sum := "d6c03d350aa11f3e3208292276c45510cbbd1a4ae469cdbf6f0e1efcf63cecc7", func := "seedbed/seedbedlaw18.LockBalance", spec := "lockBalance", unfollowed := true, recurses := true, apart := false, narrowed := true }
def LockBalanceUptoSaid : Prop := lockBalanceUptoRow.holds Try.pinned (OpenSpec.upto lockBalanceSpec)

/-- 'seedbedlaw18.LockOrder', WHERE WHAT IT READS IS OF BULK AT MOST 1048576: true; the input reads as it did. -/
def lockOrderUptoRow : OpenClaim := { program := "ytpkldcnkadfhgaa", sum := "d6c03d350aa11f3e3208292276c45510cbbd1a4ae469cdbf6f0e1efcf63cecc7", func := "seedbed/seedbedlaw18.LockOrder", spec := "lockOrder", apart := false, narrowed := true }
def LockOrderUptoSaid : Prop := lockOrderUptoRow.holds Try.pinned (OpenSpec.upto lockOrderSpec)

/-- 'seedbedlaw18.LockStuck', WHERE WHAT IT READS IS OF BULK AT MOST 1048576: true; the input reads as it did. -/
def lockStuckUptoRow : OpenClaim := { program := "ytpkldcnkadfhgaa", sum := "d6c03d350aa11f3e3208292276c45510cbbd1a4ae469cdbf6f0e1efcf63cecc7", func := "seedbed/seedbedlaw18.LockStuck", spec := "lockStuck", inPlace := ["maps.clone"], unfollowed := true, recurses := true, apart := false, narrowed := true }
def LockStuckUptoSaid : Prop := lockStuckUptoRow.holds Try.pinned (OpenSpec.upto lockStuckSpec)

/-- 'seedbedlaw18.LockFree', WHERE WHAT IT READS IS OF BULK AT MOST 1048576: true; the input reads as it did. -/
def lockFreeUptoRow : OpenClaim := { program := "ytpkldcnkadfhgaa", sum := "d6c03d350aa11f3e3208292276c45510cbbd1a4ae469cdbf6f0e1efcf63cecc7", func := "seedbed/seedbedlaw18.LockFree", spec := "lockFree", inPlace := ["maps.clone"], unfollowed := true, recurses := true, apart := false, narrowed := true }
def LockFreeUptoSaid : Prop := lockFreeUptoRow.holds Try.pinned (OpenSpec.upto lockFreeSpec)

/-- 'seedbedlaw18.LockCopies', WHERE WHAT IT READS IS OF BULK AT MOST 1048576: true; the input reads as it did. -/
def lockCopiesUptoRow : OpenClaim := { program := "ytpkldcnkadfhgaa", sum := "d6c03d350aa11f3e3208292276c45510cbbd1a4ae469cdbf6f0e1efcf63cecc7", func := "seedbed/seedbedlaw18.LockCopies", spec := "lockCopies", inPlace := ["maps.clone"], unfollowed := true, recurses := true, apart := false, narrowed := true }
def LockCopiesUptoSaid : Prop := lockCopiesUptoRow.holds Try.pinned (OpenSpec.upto lockCopiesSpec)

end Rows
end Go.Proofs.Ytpkldcnkadfhgaa
