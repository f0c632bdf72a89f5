/-
  No cell of these rows narrows 'for every input' (looked for: loops, veiled, ifaces, maps, wideKeys, modest, calm, conditions, laid).
  DERIVED. THE GIVEN ROWS OF THIS SEAT. 8 by the template 'for every input the law returns true; each argument reads behind the call as it read before'; 0 by the template 'total and deterministic' (their statements: YtapbghkoijmjeaaTotals.lean).
  GIVEN WITH THE SEED: the statements are not yours to turn. If you find one false, say at which input.
  Laid BY PROGRAM, IN A SANDBOX (cutbox-rows.mjs): the forced cells as the released guide's own fill.sh prints them over the translation 2c70c286f5ee6d04… (all of the seat's roots in one cut). By AI agents, Wed Nov 11 2026. No macro, syntax, notation, axiom, sorry.
-/
import Derived.Test.YtapbghkoijmjeaaChecked
import GoSem.Claim
import GoSem.ClaimJoined
import GoSem.ClaimMapViews
import Derived.JoinedTies
import Derived.KernelRfl
namespace Go.Proofs.Ytapbghkoijmjeaa
/- THE CELL 'sum', in the pinned program and in every row, IS THE sha256 OF THE DUMP (.gsa) THAT YtapbghkoijmjeaaProg.lean LOADS. Nothing in Lean hashes anything: it is a label: what it is worth is what the hold of that sum in a sandbox is worth. -/
noncomputable def Try.pinned : Pinned := { name := "ytapbghkoijmjeaa", sum := "2c70c286f5ee6d0465d6e81cee46cf87174c3280d4cefd3ca6aec737869e1c53", checked := Try.checked }
namespace Rows
def none {H : Type} : Left H := { results := [], args := [] }

/-- 'seedbedlaw21.LedgerPlays': WHATEVER THE INPUT: true; the input reads as it did. -/
def ledgerPlaysSpec : ChangeSpec := { name := "ledgerPlays", fn := fun _ => fun
  | [d] => { results := [.lit (.bool true)], args := [d] }
  | _ => none }
def ledgerPlaysRow : OpenClaim := { program := "ytapbghkoijmjeaa", sum := "2c70c286f5ee6d0465d6e81cee46cf87174c3280d4cefd3ca6aec737869e1c53", func := "seedbed/seedbedlaw21.LedgerPlays", spec := "ledgerPlays", unfollowed := true, recurses := true, apart := false }
def LedgerPlaysSaid : Prop := ledgerPlaysRow.holds Try.pinned (OpenSpec.ofChange ledgerPlaysSpec)

/-- ITS FALSE NEIGHBOUR: 'it returns false'. Refute it at one input. -/
def ledgerPlaysWrong : ChangeSpec := { name := "ledgerPlays", fn := fun _ => fun
  | [d] => { results := [.lit (.bool false)], args := [d] }
  | _ => none }
def LedgerPlaysWrongFalsely : Prop := ledgerPlaysRow.holds Try.pinned (OpenSpec.ofChange ledgerPlaysWrong)

/-- 'seedbedlaw21.LedgerNobody': WHATEVER THE INPUT: true; the input reads as it did. -/
def ledgerNobodySpec : ChangeSpec := { name := "ledgerNobody", fn := fun _ => fun
  | [d1, d2] => { results := [.lit (.bool true)], args := [d1, d2] }
  | _ => none }
def ledgerNobodyRow : OpenClaim := { program := "ytapbghkoijmjeaa", sum := "2c70c286f5ee6d0465d6e81cee46cf87174c3280d4cefd3ca6aec737869e1c53", func := "seedbed/seedbedlaw21.LedgerNobody", spec := "ledgerNobody", unfollowed := true, recurses := true, apart := false }
def LedgerNobodySaid : Prop := ledgerNobodyRow.holds Try.pinned (OpenSpec.ofChange ledgerNobodySpec)

/-- ITS FALSE NEIGHBOUR: 'it returns false'. Refute it at one input. -/
def ledgerNobodyWrong : ChangeSpec := { name := "ledgerNobody", fn := fun _ => fun
  | [d1, d2] => { results := [.lit (.bool false)], args := [d1, d2] }
  | _ => none }
def LedgerNobodyWrongFalsely : Prop := ledgerNobodyRow.holds Try.pinned (OpenSpec.ofChange ledgerNobodyWrong)

/-- 'seedbedlaw21.LedgerOnce': WHATEVER THE INPUT: true; the input reads as it did. -/
def ledgerOnceSpec : ChangeSpec := { name := "ledgerOnce", fn := fun _ => fun
  | [d] => { results := [.lit (.bool true)], args := [d] }
  | _ => none }
def ledgerOnceRow : OpenClaim := { program := "ytapbghkoijmjeaa", sum := "2c70c286f5ee6d0465d6e81cee46cf87174c3280d4cefd3ca6aec737869e1c53", func := "seedbed/seedbedlaw21.LedgerOnce", spec := "ledgerOnce", unfollowed := true, recurses := true, apart := false }
def LedgerOnceSaid : Prop := ledgerOnceRow.holds Try.pinned (OpenSpec.ofChange ledgerOnceSpec)

/-- ITS FALSE NEIGHBOUR: 'it returns false'. Refute it at one input. -/
def ledgerOnceWrong : ChangeSpec := { name := "ledgerOnce", fn := fun _ => fun
  | [d] => { results := [.lit (.bool false)], args := [d] }
  | _ => none }
def LedgerOnceWrongFalsely : Prop := ledgerOnceRow.holds Try.pinned (OpenSpec.ofChange ledgerOnceWrong)

/-- 'seedbedlaw21.LedgerNested': WHATEVER THE INPUT: true; the input reads as it did. -/
def ledgerNestedSpec : ChangeSpec := { name := "ledgerNested", fn := fun _ => fun
  | [d] => { results := [.lit (.bool true)], args := [d] }
  | _ => none }
def ledgerNestedRow : OpenClaim := { program := "ytapbghkoijmjeaa", sum := "2c70c286f5ee6d0465d6e81cee46cf87174c3280d4cefd3ca6aec737869e1c53", func := "seedbed/seedbedlaw21.LedgerNested", spec := "ledgerNested", unfollowed := true, recurses := true, apart := false }
def LedgerNestedSaid : Prop := ledgerNestedRow.holds Try.pinned (OpenSpec.ofChange ledgerNestedSpec)

/-- ITS FALSE NEIGHBOUR: 'it returns false'. Refute it at one input. -/
def ledgerNestedWrong : ChangeSpec := { name := "ledgerNested", fn := fun _ => fun
  | [d] => { results := [.lit (.bool false)], args := [d] }
  | _ => none }
def LedgerNestedWrongFalsely : Prop := ledgerNestedRow.holds Try.pinned (OpenSpec.ofChange ledgerNestedWrong)

/-- 'seedbedlaw21.LedgerEnds': WHATEVER THE INPUT: true; the input reads as it did. -/
def ledgerEndsSpec : ChangeSpec := { name := "ledgerEnds", fn := fun _ => fun
  | [d1, d2] => { results := [.lit (.bool true)], args := [d1, d2] }
  | _ => none }
def ledgerEndsRow : OpenClaim := { program := "ytapbghkoijmjeaa", sum := "2c70c286f5ee6d0465d6e81cee46cf87174c3280d4cefd3ca6aec737869e1c53", func := "seedbed/seedbedlaw21.LedgerEnds", spec := "ledgerEnds", unfollowed := true, recurses := true, apart := false }
def LedgerEndsSaid : Prop := ledgerEndsRow.holds Try.pinned (OpenSpec.ofChange ledgerEndsSpec)

/-- ITS FALSE NEIGHBOUR: 'it returns false'. Refute it at one input. -/
def ledgerEndsWrong : ChangeSpec := { name := "ledgerEnds", fn := fun _ => fun
  | [d1, d2] => { results := [.lit (.bool false)], args := [d1, d2] }
  | _ => none }
def LedgerEndsWrongFalsely : Prop := ledgerEndsRow.holds Try.pinned (OpenSpec.ofChange ledgerEndsWrong)

/-- 'seedbedlaw21.LedgerCrossed': WHATEVER THE INPUT: true; the input reads as it did. -/
def ledgerCrossedSpec : ChangeSpec := { name := "ledgerCrossed", fn := fun _ => fun
  | [d] => { results := [.lit (.bool true)], args := [d] }
  | _ => none }
def ledgerCrossedRow : OpenClaim := { program := "ytapbghkoijmjeaa", sum := "2c70c286f5ee6d0465d6e81cee46cf87174c3280d4cefd3ca6aec737869e1c53", func := "seedbed/seedbedlaw21.LedgerCrossed", spec := "ledgerCrossed", unfollowed := true, recurses := true, apart := false }
def LedgerCrossedSaid : Prop := ledgerCrossedRow.holds Try.pinned (OpenSpec.ofChange ledgerCrossedSpec)

/-- ITS FALSE NEIGHBOUR: 'it returns false'. Refute it at one input. -/
def ledgerCrossedWrong : ChangeSpec := { name := "ledgerCrossed", fn := fun _ => fun
  | [d] => { results := [.lit (.bool false)], args := [d] }
  | _ => none }
def LedgerCrossedWrongFalsely : Prop := ledgerCrossedRow.holds Try.pinned (OpenSpec.ofChange ledgerCrossedWrong)

/-- 'seedbedlaw21.LedgerFull': WHATEVER THE INPUT: true; the input reads as it did. -/
def ledgerFullSpec : ChangeSpec := { name := "ledgerFull", fn := fun _ => fun
  | [d1, d2] => { results := [.lit (.bool true)], args := [d1, d2] }
  | _ => none }
def ledgerFullRow : OpenClaim := { program := "ytapbghkoijmjeaa", sum := "2c70c286f5ee6d0465d6e81cee46cf87174c3280d4cefd3ca6aec737869e1c53", func := "seedbed/seedbedlaw21.LedgerFull", spec := "ledgerFull", unfollowed := true, recurses := true, apart := false }
def LedgerFullSaid : Prop := ledgerFullRow.holds Try.pinned (OpenSpec.ofChange ledgerFullSpec)

/-- ITS FALSE NEIGHBOUR: 'it returns false'. Refute it at one input. -/
def ledgerFullWrong : ChangeSpec := { name := "ledgerFull", fn := fun _ => fun
  | [d1, d2] => { results := [.lit (.bool false)], args := [d1, d2] }
  | _ => none }
def LedgerFullWrongFalsely : Prop := ledgerFullRow.holds Try.pinned (OpenSpec.ofChange ledgerFullWrong)

/-- 'seedbedlaw21.LedgerCopies': WHATEVER THE INPUT: true; the input reads as it did. -/
def ledgerCopiesSpec : ChangeSpec := { name := "ledgerCopies", fn := fun _ => fun
  | [d1, d2] => { results := [.lit (.bool true)], args := [d1, d2] }
  | _ => none }
def ledgerCopiesRow : OpenClaim := { program := "ytapbghkoijmjeaa", sum := "2c70c286f5ee6d0465d6e81cee46cf87174c3280d4cefd3ca6aec737869e1c53", func := "seedbed/seedbedlaw21.LedgerCopies", spec := "ledgerCopies", unfollowed := true, recurses := true, apart := false }
def LedgerCopiesSaid : Prop := ledgerCopiesRow.holds Try.pinned (OpenSpec.ofChange ledgerCopiesSpec)

/-- ITS FALSE NEIGHBOUR: 'it returns false'. Refute it at one input. -/
def ledgerCopiesWrong : ChangeSpec := { name := "ledgerCopies", fn := fun _ => fun
  | [d1, d2] => { results := [.lit (.bool false)], args := [d1, d2] }
  | _ => none }
def LedgerCopiesWrongFalsely : Prop := ledgerCopiesRow.holds Try.pinned (OpenSpec.ofChange ledgerCopiesWrong)

/- THE SECOND FORM. 'bulk': how many values and letters a reading holds, each counted each time it is reached (what is shared counts as often as it is met; a slice's spare places count too). A statement '..UptoSaid' is the law's where the arguments, and the package variables that the reading takes, are together of bulk at most 1048576: NARROWER than '..Said'. Prove '..Said' where nothing that the law and all that it calls make is longer than what came in: it says more and counts as full. Else prove '..UptoSaid'. A law counts once. -/
mutual
def uptoBulk {H : Type} : DataW H → Nat
  | .lit (.string bytes) => bytes.length + 1
  | .lit _ => 1
  | .nil => 1
  | .ptr d => uptoBulk d + 1
  | .slice elems spare => uptoBulkAll elems + uptoBulkAll spare + 1
  | .agg parts => uptoBulkAll parts + 1
  | .iface _ d => uptoBulk d + 1
  | .map entries => uptoBulkEntries entries + 1
  | .held _ => 1
def uptoBulkAll {H : Type} : List (DataW H) → Nat
  | [] => 0
  | d :: r => uptoBulk d + uptoBulkAll r
def uptoBulkEntries {H : Type} : List (Lit × DataW H) → Nat
  | [] => 0
  | x :: r => uptoBulkEntry x + uptoBulkEntries r
def uptoBulkEntry {H : Type} : Lit × DataW H → Nat
  | (.string bytes, d) => bytes.length + uptoBulk d + 1
  | (_, d) => uptoBulk d + 1
 end
def uptoSmall : (H : Type) → List (DataW H) → Bool := fun _ ds => decide (uptoBulkAll ds ≤ 1048576)
def OpenSpec.upto (s : _root_.Go.ChangeSpec) : _root_.Go.OpenSpec := { _root_.Go.OpenSpec.ofChange s with cond := some uptoSmall }

/-- 'seedbedlaw21.LedgerPlays', WHERE WHAT IT READS IS OF BULK AT MOST 1048576: true; the input reads as it did. -/
def ledgerPlaysUptoRow : OpenClaim := { program := "ytapbghkoijmjeaa", sum := "2c70c286f5ee6d0465d6e81cee46cf87174c3280d4cefd3ca6aec737869e1c53", func := "seedbed/seedbedlaw21.LedgerPlays", spec := "ledgerPlays", unfollowed := true, recurses := true, apart := false, narrowed := true }
def LedgerPlaysUptoSaid : Prop := ledgerPlaysUptoRow.holds Try.pinned (OpenSpec.upto ledgerPlaysSpec)

/-- 'seedbedlaw21.LedgerNobody', WHERE WHAT IT READS IS OF BULK AT MOST 1048576: true; the input reads as it did. -/
def ledgerNobodyUptoRow : OpenClaim := { program := "ytapbghkoijmjeaa", sum := "2c70c286f5ee6d0465d6e81cee46cf87174c3280d4cefd3ca6aec737869e1c53", func := "seedbed/seedbedlaw21.LedgerNobody", spec := "ledgerNobody", unfollowed := true, recurses := true, apart := false, narrowed := true }
def LedgerNobodyUptoSaid : Prop := ledgerNobodyUptoRow.holds Try.pinned (OpenSpec.upto ledgerNobodySpec)

/-- 'seedbedlaw21.LedgerOnce', WHERE WHAT IT READS IS OF BULK AT MOST 1048576: true; the input reads as it did. -/
def ledgerOnceUptoRow : OpenClaim := { program := "ytapbghkoijmjeaa", sum := "2c70c286f5ee6d0465d6e81cee46cf87174c3280d4cefd3ca6aec737869e1c53", func := "seedbed/seedbedlaw21.LedgerOnce", spec := "ledgerOnce", unfollowed := true, recurses := true, apart := false, narrowed := true }
def LedgerOnceUptoSaid : Prop := ledgerOnceUptoRow.holds Try.pinned (OpenSpec.upto ledgerOnceSpec)

/-- 'seedbedlaw21.LedgerNested', WHERE WHAT IT READS IS OF BULK AT MOST 1048576: true; the input reads as it did. -/
def ledgerNestedUptoRow : OpenClaim := { program := "ytapbghkoijmjeaa", sum := "2c70c286f5ee6d0465d6e81cee46cf87174c3280d4cefd3ca6aec737869e1c53", func := "seedbed/seedbedlaw21.LedgerNested", spec := "ledgerNested", unfollowed := true, recurses := true, apart := false, narrowed := true }
def LedgerNestedUptoSaid : Prop := ledgerNestedUptoRow.holds Try.pinned (OpenSpec.upto ledgerNestedSpec)

/-- 'seedbedlaw21.LedgerEnds', WHERE WHAT IT READS IS OF BULK AT MOST 1048576: true; the input reads as it did. -/
def ledgerEndsUptoRow : OpenClaim := { program := "ytapbghkoijmjeaa", sum := "2c70c286f5ee6d0465d6e81cee46cf87174c3280d4cefd3ca6aec737869e1c53", func := "seedbed/seedbedlaw21.LedgerEnds", spec := "ledgerEnds", unfollowed := true, recurses := true, apart := false, narrowed := true }
def LedgerEndsUptoSaid : Prop := ledgerEndsUptoRow.holds Try.pinned (OpenSpec.upto ledgerEndsSpec)

/-- 'seedbedlaw21.LedgerCrossed', WHERE WHAT IT READS IS OF BULK AT MOST 1048576: true; the input reads as it did. -/
def ledgerCrossedUptoRow : OpenClaim := { program := "ytapbghkoijmjeaa", sum := "2c70c286f5ee6d0465d6e81cee46cf87174c3280d4cefd3ca6aec737869e1c53", func := "seedbed/seedbedlaw21.LedgerCrossed", spec := "ledgerCrossed", unfollowed := true, recurses := true, apart := false, narrowed := true }
def LedgerCrossedUptoSaid : Prop := ledgerCrossedUptoRow.holds Try.pinned (OpenSpec.upto ledgerCrossedSpec)

/-- 'seedbedlaw21.LedgerFull', WHERE WHAT IT READS IS OF BULK AT MOST 1048576: true; the input reads as it did. -/
def ledgerFullUptoRow : OpenClaim := { program := "ytapbghkoijmjeaa", sum := "2c70c286f5ee6d0465d6e81cee46cf87174c3280d4cefd3ca6aec737869e1c53", func := "seedbed/seedbedlaw21.LedgerFull", spec := "ledgerFull", unfollowed := true, recurses := true, apart := false, narrowed := true }
def LedgerFullUptoSaid : Prop := ledgerFullUptoRow.holds Try.pinned (OpenSpec.upto ledgerFullSpec)

/-- 'seedbedlaw21.LedgerCopies', WHERE WHAT IT READS IS OF BULK AT MOST 1048576: true; the input reads as it did. -/
def ledgerCopiesUptoRow : OpenClaim := { program := "ytapbghkoijmjeaa", sum := "2c70c286f5ee6d0465d6e81cee46cf87174c3280d4cefd3ca6aec737869e1c53", func := "seedbed/seedbedlaw21.LedgerCopies", spec := "ledgerCopies", unfollowed := true, recurses := true, apart := false, narrowed := true }
def LedgerCopiesUptoSaid : Prop := ledgerCopiesUptoRow.holds Try.pinned (OpenSpec.upto ledgerCopiesSpec)

end Rows
end Go.Proofs.Ytapbghkoijmjeaa
