/- The answer of a reader of one cond. No condition. -/
import Derived.Test.YtpadhcoboapodaaGreatDoorJV2
namespace Go.Proofs.YtpadhcoboapodaaGreatDoor
open Go.RowKit

def cndV (c : Cnd) : Value := .agg #[.int .i64 c.p, .int .i64 c.o, .int .i64 c.t, .bool c.i]
def cndAns (o : Option Cnd) : Value := match o with | some c => .tuple #[cndV c, .bool true] | none => .tuple #[cndV zeroC, .bool false]
end Go.Proofs.YtpadhcoboapodaaGreatDoor
