/- The calls of a statement. -/
import Derived.Test.YtcegmdlmnibheaaFault
namespace Go.Proofs.Ytcegmdlmnibheaa
set_option linter.unusedVariables false
set_option linter.unusedSimpArgs false
open Go.RowKit
structure Op where
  kd : Int
  n : Int
  yes : Bool
  f : Tr.F
def opV (o : Op) : Value := .agg #[.int .i64 o.kd, .int .i64 o.n, .bool o.yes, .int .i64 o.f.k, .string o.f.s]
def opCells (o : Op) : List Value := [.int .i64 o.kd, .int .i64 o.n, .bool o.yes, .int .i64 o.f.k, .string o.f.s]

end Go.Proofs.Ytcegmdlmnibheaa
