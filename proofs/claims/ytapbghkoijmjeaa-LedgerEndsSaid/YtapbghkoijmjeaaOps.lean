/- The calls of a statement. -/
import Derived.Test.YtapbghkoijmjeaaBase
namespace Go.Proofs.Ytapbghkoijmjeaa
open Go.RowKit
structure Op where
  kd : Int
  task : Int
  what : Int
def opV (o : Op) : Value := .agg #[.int .i64 o.kd, .int .i64 o.task, .int .i64 o.what]
def opCells (o : Op) : List Value := [.int .i64 o.kd, .int .i64 o.task, .int .i64 o.what]
end Go.Proofs.Ytapbghkoijmjeaa
