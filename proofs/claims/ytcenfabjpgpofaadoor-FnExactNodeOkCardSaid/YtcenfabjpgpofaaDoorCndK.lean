/- What holds for a row: the program's Holds; nothing that lay has turned. -/
import Derived.Test.YtcenfabjpgpofaaDoorCndH
import Derived.Test.YtcenfabjpgpofaaDoorCndJ
import Derived.Test.YtcenfabjpgpofaaDoorJA
namespace Go.Proofs.YtcenfabjpgpofaaDoor
open Go.RowKit

end Go.Proofs.YtcenfabjpgpofaaDoor
