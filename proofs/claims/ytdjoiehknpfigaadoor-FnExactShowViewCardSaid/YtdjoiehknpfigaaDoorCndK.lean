/- What holds for a row: the program's Holds; nothing that lay has turned. -/
import Derived.Test.YtdjoiehknpfigaaDoorCndH
import Derived.Test.YtdjoiehknpfigaaDoorCndJ
import Derived.Test.YtdjoiehknpfigaaDoorJA
namespace Go.Proofs.YtdjoiehknpfigaaDoor
open Go.RowKit

end Go.Proofs.YtdjoiehknpfigaaDoor
