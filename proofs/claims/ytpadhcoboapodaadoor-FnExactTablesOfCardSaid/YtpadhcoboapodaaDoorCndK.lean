/- What holds for a row: the program's Holds; nothing that lay has turned. -/
import Derived.Test.YtpadhcoboapodaaDoorCndH
import Derived.Test.YtpadhcoboapodaaDoorCndJ
import Derived.Test.YtpadhcoboapodaaDoorJA
namespace Go.Proofs.YtpadhcoboapodaaDoor
open Go.RowKit

end Go.Proofs.YtpadhcoboapodaaDoor
