/- Contracts of the list's 'turned' with turnedRound and of the program's Minus: a bag that reads as told; nothing that lay has turned. -/
import Derived.Test.YtpadhcoboapodaaSgn3
namespace Go.Proofs.Ytpadhcoboapodaa
open Go.RowKit

end Go.Proofs.Ytpadhcoboapodaa
