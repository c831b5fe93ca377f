/- What holds for a row: the program's Holds; nothing that lay has turned. -/
import Derived.Test.YtfhjgkiclfbgkaaDoorCndH
import Derived.Test.YtfhjgkiclfbgkaaDoorCndJ
import Derived.Test.YtfhjgkiclfbgkaaDoorJA
namespace Go.Proofs.YtfhjgkiclfbgkaaDoor
open Go.RowKit

end Go.Proofs.YtfhjgkiclfbgkaaDoor
