/- Contracts of the program's small functions over counts: countLess, countsTogether, turnedRound, isOnce. Each says what the call returns; nothing that lay has turned. -/
import Derived.Test.YtpadhcoboapodaaBagI2
namespace Go.Proofs.Ytpadhcoboapodaa
open Go.RowKit

end Go.Proofs.Ytpadhcoboapodaa
