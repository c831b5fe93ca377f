/- What holds for a row: the program's Holds; nothing that lay has turned. -/
import Derived.Test.YtejgofhpjkebbaaDoorCndH
import Derived.Test.YtejgofhpjkebbaaDoorCndJ
import Derived.Test.YtejgofhpjkebbaaDoorJA
namespace Go.Proofs.YtejgofhpjkebbaaDoor
open Go.RowKit

end Go.Proofs.YtejgofhpjkebbaaDoor
